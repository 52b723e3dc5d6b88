/- Merged: Plain07C, PL07, TAllowed. -/
import Derived.Test.YtceneblmllpdnaaDoorQ15
import Derived.Test.YtceneblmllpdnaaDoorQ07
import Derived.Lib.ReplaceLaws
import Derived.Lib.Replace
import Derived.Lib.CountLaws
import Derived.Lib.IndexMore
import Derived.Lib.IndexLaws
import Derived.Lib.AtoiAll
import Derived.Lib.Join
import Derived.Lib.Strings
import Derived.Test.YtceneblmllpdnaaDoorQ04
namespace Go.Proofs.YtceneblmllpdnaaDoor

section
/-- The number that the digits make, and what stands behind it. -/
def authL : List UInt8 → Nat → Nat × List UInt8
  | [], a => (a, [])
  | c :: t, a => if digB c = true ∧ a ≤ 9999 then authL t (a * 10 + (c.toNat - 48)) else (a, c :: t)
/-- A value, and what stands behind it. -/
def valL : List UInt8 → List UInt8 × List UInt8
  | [] => ([], [])
  | [c] => if c ≠ 36 then ([c], []) else ([], [c])
  | c :: d :: t => if c ≠ 36 then (c :: (valL (d :: t)).1, (valL (d :: t)).2) else if d = 36 then (36 :: (valL t).1, (valL t).2) else ([], c :: d :: t)
theorem valL_other (c : UInt8) (l : List UInt8) (h : c ≠ 36) : valL (c :: l) = (c :: (valL l).1, (valL l).2) := by
  cases l with
  | nil =>
    show valL [c] = ([c], [])
    rw [valL, if_pos h]
  | cons d t => rw [valL, if_pos h]
theorem valL_two (t : List UInt8) : valL (36 :: 36 :: t) = (36 :: (valL t).1, (valL t).2) := by
  rw [valL, if_neg (fun h => h rfl), if_pos rfl]
theorem valL_end (l : List UInt8) (h : l = [] ∨ l = [36] ∨ ∃ d t, l = 36 :: d :: t ∧ d ≠ 36) : valL l = ([], l) := by
  rcases h with rfl | rfl | ⟨d, t, rfl, h⟩
  · rfl
  · rw [valL, if_neg (fun h => h rfl)]
  · rw [valL, if_neg (fun h => h rfl), if_neg h]
theorem valL_le : ∀ l : List UInt8, (valL l).2.length ≤ l.length
  | [] => Nat.le_refl _
  | [c] => by rw [valL]; split <;> simp
  | c :: d :: t => by
    have h1 := valL_le (d :: t)
    have h2 := valL_le t
    rw [valL]
    split
    · simp at h1 ⊢; omega
    · split
      · simp; omega
      · simp
def subsF : Nat → List UInt8 → Option (List Sub)
  | _, [] => some []
  | 0, _ :: _ => none
  | _ + 1, [_] => none
  | k + 1, c :: d :: t => if c ≠ 36 then none else (subsF k (valL t).2).map fun L => (d, (valL t).1) :: L
def unB (c : UInt8) : UInt8 := if c = 35 then 32 else c
def authR (l : List UInt8) : Nat × List UInt8 := if l.getD 0 0 = 64 then authL (l.drop 1) 0 else (0, l)
def readL (s : List UInt8) : Option Fld :=
  if s.length < 8 then none
  else if (authR (s.drop 3)).2.length < 4 ∨ (authR (s.drop 3)).2.getD 0 0 ≠ 32 ∨ (authR (s.drop 3)).2.getD 3 0 ≠ 32 then none
  else if (authR (s.drop 3)).2.getD 1 0 = 32 ∨ (authR (s.drop 3)).2.getD 2 0 = 32 then none
  else (subsF s.length ((authR (s.drop 3)).2.drop 4)).map fun L => ⟨s.take 3, [unB ((authR (s.drop 3)).2.getD 1 0), unB ((authR (s.drop 3)).2.getD 2 0)], L, ((authR (s.drop 3)).1 : Nat)⟩
/-- What Parse returns, if it is no error. -/
def parseO (s : List UInt8) : Option Fld :=
  match readL s with
  | none => none
  | some f => if rightI f = 0 ∧ lineL f = s then some f else none
theorem parse_sound (s : List UInt8) (f : Fld) (h : parseO s = some f) : rightI f = 0 ∧ lineL f = s := by
  unfold parseO at h
  split at h
  · cases h
  · split at h
    · cases h; assumption
    · cases h

theorem valL_dbl : ∀ (v r : List UInt8), (r = [] ∨ ∃ d t, r = 36 :: d :: t ∧ d ≠ 36) → valL (dblL v ++ r) = (v, r)
  | [], r, h => valL_end r (by rcases h with h | h; exact .inl h; exact .inr (.inr h))
  | x :: t, r, h => by
    rw [dblL]
    by_cases hx : x = 36
    · rw [if_pos hx, List.cons_append, List.cons_append, valL_two, valL_dbl t r h, hx]
    · rw [if_neg hx, List.cons_append, valL_other x _ hx, valL_dbl t r h]
theorem code_36 (c : UInt8) (h : codeB c = true) : c ≠ 36 := by
  rintro rfl
  exact absurd h (by decide)
theorem body_form (L : List Sub) (h : ∀ i, i < L.length → codeB (L.getD i sub0).1 = true) : bodyL L = [] ∨ ∃ d t, bodyL L = 36 :: d :: t ∧ d ≠ 36 := by
  cases L with
  | nil => exact .inl rfl
  | cons s t => exact .inr ⟨s.1, dblL s.2 ++ bodyL t, by simp [bodyL, subP], code_36 _ (h 0 (by simp))⟩
theorem subs_back : ∀ (L : List Sub) (k : Nat), (bodyL L).length ≤ k → (∀ i, i < L.length → codeB (L.getD i sub0).1 = true) → subsF k (bodyL L) = some L
  | [], k, _, _ => by
    show subsF k [] = _
    cases k <;> rfl
  | s :: t, k, hk, h => by
    have e : bodyL (s :: t) = 36 :: s.1 :: (dblL s.2 ++ bodyL t) := by simp [bodyL, subP]
    have ht : ∀ i, i < t.length → codeB (t.getD i sub0).1 = true := fun i hi => h (i + 1) (by simpa using hi)
    rw [e] at hk ⊢
    cases k with
    | zero => simp at hk
    | succ k =>
      rw [subsF, if_neg (fun h => h rfl), valL_dbl s.2 _ (body_form t ht), subs_back t k (by simp at hk; omega) ht]
      rfl
theorem dig_of (r : Nat) (h : r < 10) : digB (dgt r) = true := by
  rw [digB_iff, dgt_nat r (by omega)]
  omega
theorem auth_digits : ∀ (n : Nat) (r : List UInt8), n ≤ 99999 → authL (Lib.decDigits n ++ r) 0 = authL r n := by
  intro n
  induction n using Nat.strongRecOn with
  | ind n ih =>
    intro r hn
    by_cases h : n < 10
    · rw [dec1 n h]
      show authL (dgt n :: r) 0 = _
      rw [authL, if_pos ⟨dig_of n h, by omega⟩, dgt_nat n (by omega)]
      congr 1
      omega
    · rw [decS n h, List.append_assoc, ih (n / 10) (by omega) _ (by omega)]
      show authL (dgt (n % 10) :: r) (n / 10) = _
      rw [authL, if_pos ⟨dig_of _ (Nat.mod_lt _ (by decide)), by omega⟩, dgt_nat _ (by omega)]
      congr 1
      omega
theorem authR_back (n : Int) (h0 : 0 ≤ n) (h1 : n ≤ 9999) (r : List UInt8) : authR (authP n ++ 32 :: r) = (n.toNat, 32 :: r) := by
  unfold authP
  by_cases h : n = 0
  · subst h
    rfl
  · rw [if_neg h]
    have hp := dec_pos n.toNat
    have e : padL 1 (Lib.decDigits n.toNat) = Lib.decDigits n.toNat := by
      unfold padL
      rw [show 1 - (Lib.decDigits n.toNat).length = 0 by omega]
      rfl
    rw [e]
    show authR (64 :: (Lib.decDigits n.toNat ++ 32 :: r)) = _
    unfold authR
    rw [if_pos (by rfl), List.drop_succ_cons, List.drop_zero, auth_digits _ _ (by omega), authL, if_neg (fun hh => absurd hh.1 (by decide))]
theorem mark_form (c : UInt8) (h : indB c = true) : ∃ d, markB c = [d] ∧ d ≠ 32 ∧ unB d = c := by
  unfold markB
  by_cases h32 : c = 32
  · rw [if_pos h32]
    exact ⟨35, rfl, by decide, by rw [h32]; rfl⟩
  · rw [if_neg h32]
    refine ⟨c, rfl, h32, ?_⟩
    unfold unB
    rw [if_neg]
    rintro rfl
    exact absurd h (by decide)
theorem read_back (f : Fld) (h : rightI f = 0) : readL (lineL f) = some f := by
  obtain ⟨htag, hind, hn1, hn16, hsub, ha0, ha1⟩ := right_facts f h
  have hcode : ∀ i, i < f.subs.length → codeB (f.subs.getD i sub0).1 = true := fun i hi => (subE_zero _ (hsub i hi)).1
  have h3 := tagB_len _ htag
  have h2 := indsB_len _ hind
  obtain ⟨tag, ind, subs, au⟩ := f
  match tag, h3, ind, h2, subs with
  | [t0, t1, t2], _, [i0, i1], _, subs =>
    have hi0 : indB i0 = true := by
      unfold indsB at hind
      simp only [Bool.and_eq_true] at hind
      exact hind.1.2
    have hi1 : indB i1 = true := by
      unfold indsB at hind
      simp only [Bool.and_eq_true] at hind
      exact hind.2
    obtain ⟨d0, m0, n0, u0⟩ := mark_form i0 hi0
    obtain ⟨d1, m1, n1, u1⟩ := mark_form i1 hi1
    have e : lineL ⟨[t0, t1, t2], [i0, i1], subs, au⟩ = [t0, t1, t2] ++ (authP au ++ 32 :: (d0 :: d1 :: 32 :: bodyL subs)) := by
      unfold lineL headL
      show [t0, t1, t2] ++ authP au ++ 32 :: (markB i0 ++ markB i1 ++ [32]) ++ bodyL subs = _
      rw [m0, m1]
      simp
    have hdrop : ([t0, t1, t2] ++ (authP au ++ 32 :: (d0 :: d1 :: 32 :: bodyL subs))).drop 3 = authP au ++ 32 :: (d0 :: d1 :: 32 :: bodyL subs) := rfl
    have htake : ([t0, t1, t2] ++ (authP au ++ 32 :: (d0 :: d1 :: 32 :: bodyL subs))).take 3 = [t0, t1, t2] := rfl
    have hbl : 2 ≤ (bodyL subs).length := by
      cases subs with
      | nil => cases hn1
      | cons s t => simp [bodyL, subP]
    have hlen : ([t0, t1, t2] ++ (authP au ++ 32 :: (d0 :: d1 :: 32 :: bodyL subs))).length = 7 + (authP au).length + (bodyL subs).length := by simp; omega
    have hr := authR_back au ha0 ha1 (d0 :: d1 :: 32 :: bodyL subs)
    have hs := subs_back subs (7 + (authP au).length + (bodyL subs).length) (by omega) hcode
    unfold readL
    rw [e, hdrop, htake, hlen, hr, if_neg (by omega), if_neg, if_neg]
    · show (subsF _ (bodyL subs)).map _ = _
      rw [hs]
      show some (Fld.mk [t0, t1, t2] [unB d0, unB d1] subs ((au.toNat : Nat) : Int)) = _
      rw [u0, u1, Int.toNat_of_nonneg ha0]
    · show ¬ (d0 = 32 ∨ d1 = 32)
      exact fun h => h.elim n0 n1
    · show ¬ ((32 :: d0 :: d1 :: 32 :: bodyL subs).length < 4 ∨ (32 : UInt8) ≠ 32 ∨ (32 : UInt8) ≠ 32)
      simp
theorem parse_back (f : Fld) (h : rightI f = 0) : parseO (lineL f) = some f := by
  unfold parseO
  rw [read_back f h]
  show (if rightI f = 0 ∧ lineL f = lineL f then some f else none) = some f
  rw [if_pos ⟨h, rfl⟩]
theorem line_inj (f g : Fld) (hf : rightI f = 0) (hg : rightI g = 0) (h : lineL f = lineL g) : f = g := by
  have h1 := parse_back f hf
  rw [h, parse_back g hg] at h1
  exact (Option.some.inj h1).symm
end

section
/-! strings.ReplaceAll. -/
theorem rep_hit (old new l : List UInt8) (h0 : old ≠ []) (h : old.isPrefixOf l = true) : Lib.replaceK old new (Lib.count l old) l = new ++ Lib.replaceK old new (Lib.count (l.drop old.length) old) (l.drop old.length) := by
  have hi : Lib.index l old = ((0 : Nat) : Int) := by
    cases l with
    | nil =>
      cases old with
      | nil => exact absurd rfl h0
      | cons _ _ => simp at h
    | cons b t => rw [Lib.index, if_pos h]; rfl
  rw [Lib.count_hit h0 hi, Nat.add_comm 1, Lib.replaceK_hit _ _ _ _ 0 hi, List.take_zero, List.nil_append, Nat.zero_add]
theorem rep_miss (old new l : List UInt8) (b : UInt8) (h0 : old ≠ []) (h : old.isPrefixOf (b :: l) = false) : Lib.replaceK old new (Lib.count (b :: l) old) (b :: l) = b :: Lib.replaceK old new (Lib.count l old) l := by
  have hn : ¬ (old.isPrefixOf (b :: l) = true) := by rw [h]; intro h; cases h
  rcases Int.lt_or_le (Lib.index l old) 0 with hneg | hp
  · have hm : Lib.index l old = -1 := by have := Lib.index_ge l old; omega
    have hi : Lib.index (b :: l) old = -1 := by
      rw [Lib.index, if_neg hn, hm]
      rfl
    rw [Lib.count_miss hm, Lib.count_miss hi]
    rfl
  · obtain ⟨i, hm⟩ : ∃ i : Nat, Lib.index l old = i := ⟨(Lib.index l old).toNat, by omega⟩
    have hi : Lib.index (b :: l) old = ((i + 1 : Nat) : Int) := by
      rw [Lib.index, if_neg hn, hm, if_neg]
      · rfl
      · intro h
        have := beq_iff_eq.1 h
        omega
    rw [Lib.count_hit h0 hm, Lib.count_hit h0 hi, Nat.add_comm 1, Nat.add_comm 1, Lib.replaceK_hit _ _ _ _ i hm, Lib.replaceK_hit _ _ _ _ (i + 1) hi]
    rw [show i + 1 + old.length = (i + old.length) + 1 by omega, List.take_succ_cons, List.drop_succ_cons, List.cons_append, List.cons_append]
theorem rep_nil (old new : List UInt8) (h0 : old ≠ []) : Lib.replaceK old new (Lib.count [] old) [] = [] := by
  have : Lib.index [] old = -1 := by
    rw [Lib.index, if_neg]
    cases old with
    | nil => exact absurd rfl h0
    | cons _ _ => simp
  rw [Lib.count_miss this]
  rfl
theorem rep_all (old new l : List UInt8) (hne : old ≠ new) : Lib.replaceAll l old new = Lib.replaceK old new (Lib.count l old) l := by
  unfold Lib.replaceAll Lib.replace Lib.replaceNum
  rw [if_neg, if_pos (Or.inl (by decide))]
  intro h
  exact hne (beq_iff_eq.1 h)
/-- One byte by a text. -/
def subL (c : UInt8) (d : List UInt8) (l : List UInt8) : List UInt8 := l.flatMap fun x => if x = c then d else [x]
theorem one_prefix (c b : UInt8) (l : List UInt8) : [c].isPrefixOf (b :: l) = decide (b = c) := by
  show (c == b && _) = _
  rw [show ([] : List UInt8).isPrefixOf l = true from by cases l <;> rfl, Bool.and_true]
  rw [Bool.eq_iff_iff, beq_iff_eq, decide_eq_true_iff]
  exact eq_comm
theorem sub_K (c : UInt8) (d : List UInt8) : ∀ l : List UInt8, Lib.replaceK [c] d (Lib.count l [c]) l = subL c d l
  | [] => rep_nil _ _ (by simp)
  | b :: l => by
    have ih := sub_K c d l
    unfold subL at ih ⊢
    rw [List.flatMap_cons]
    by_cases h : b = c
    · rw [rep_hit [c] d (b :: l) (by simp) (by rw [one_prefix]; exact decide_eq_true h), if_pos h]
      show d ++ Lib.replaceK [c] d (Lib.count l [c]) l = _
      rw [ih]
    · rw [rep_miss [c] d l b (by simp) (by rw [one_prefix]; exact decide_eq_false h), if_neg h, ih]
      rfl
theorem sub_all (c : UInt8) (d l : List UInt8) (hne : [c] ≠ d) : Lib.replaceAll l [c] d = subL c d l := by rw [rep_all _ _ _ hne, sub_K]
theorem sub_dbl : ∀ l : List UInt8, subL 36 [36, 36] l = dblL l
  | [] => rfl
  | x :: t => by
    have ih := sub_dbl t
    unfold subL at ih ⊢
    rw [List.flatMap_cons, ih, dblL]
    split <;> rfl
theorem sub_un : ∀ l : List UInt8, subL 35 [32] l = l.map unB
  | [] => rfl
  | x :: t => by
    have ih := sub_un t
    unfold subL at ih ⊢
    rw [List.flatMap_cons, ih, List.map_cons]
    unfold unB
    split <;> rfl
theorem sub_mark (a b : UInt8) : subL 32 [35] [a, b] = markB a ++ markB b := by
  unfold subL markB
  simp
/-- All bytes but the blanks are digits: of two bytes, each is a blank or a digit. -/
theorem sub_inds (a b : UInt8) : (subL 32 [] [a, b]).all digB = (indB a && indB b) := by
  have one : ∀ x : UInt8, (if x = 32 then ([] : List UInt8) else [x]).all digB = indB x := by
    intro x
    unfold indB
    by_cases h : x = 32
    · rw [if_pos h]; simp [h]
    · rw [if_neg h]; simp [h]
  show ((if a = 32 then ([] : List UInt8) else [a]) ++ ((if b = 32 then ([] : List UInt8) else [b]) ++ [])).all digB = _
  rw [List.append_nil, List.all_append, one a, one b]
theorem two_36 (x : UInt8) (l : List UInt8) (h : x ≠ 36) : [36, 36].isPrefixOf (x :: l) = false := by
  show ((36 : UInt8) == x && _) = false
  rw [beq_eq_false_iff_ne.2 (fun e => h e.symm), Bool.false_and]
theorem halve_K : ∀ v : List UInt8, Lib.replaceK [36, 36] [36] (Lib.count (dblL v) [36, 36]) (dblL v) = v
  | [] => rep_nil _ _ (by simp)
  | x :: t => by
    have ih := halve_K t
    rw [dblL]
    by_cases h : x = 36
    · rw [if_pos h, rep_hit [36, 36] [36] (36 :: 36 :: dblL t) (by simp) (by simp)]
      show [36] ++ Lib.replaceK [36, 36] [36] (Lib.count (dblL t) [36, 36]) (dblL t) = _
      rw [ih, h]
      rfl
    · rw [if_neg h, rep_miss [36, 36] [36] (dblL t) x (by simp) (two_36 x _ h), ih]
/-- Two dollars by one. -/
def halveL (l : List UInt8) : List UInt8 := Lib.replaceAll l [36, 36] [36]
theorem halve_dbl (v : List UInt8) : halveL (dblL v) = v := by
  unfold halveL
  rw [rep_all _ _ _ (by simp), halve_K]

/-! strings.Cut at a byte. -/
theorem index_one (c : UInt8) : ∀ l : List UInt8, c ∉ l → Lib.index l [c] = -1
  | [], _ => rfl
  | b :: l, h => by
    have hb : ¬ ([c].isPrefixOf (b :: l) = true) := by
      rw [one_prefix]
      simp only [List.mem_cons, not_or] at h
      rw [decide_eq_true_iff]
      exact fun e => h.1 e.symm
    rw [Lib.index, if_neg hb, index_one c l (fun h' => h (List.mem_cons_of_mem _ h'))]
    rfl
theorem index_at (c : UInt8) : ∀ (a r : List UInt8), c ∉ a → Lib.index (a ++ c :: r) [c] = (a.length : Int)
  | [], r, _ => by
    show Lib.index (c :: r) [c] = 0
    rw [Lib.index, if_pos (by rw [one_prefix]; simp)]
  | b :: a, r, h => by
    have hb : ¬ ([c].isPrefixOf (b :: (a ++ c :: r)) = true) := by
      rw [one_prefix]
      simp only [List.mem_cons, not_or] at h
      rw [decide_eq_true_iff]
      exact fun e => h.1 e.symm
    show Lib.index (b :: (a ++ c :: r)) [c] = _
    rw [Lib.index, if_neg hb, index_at c a r (fun h' => h (List.mem_cons_of_mem _ h')), if_neg]
    · simp
    · intro h
      have := beq_iff_eq.1 h
      omega
theorem cut_at (c : UInt8) (a r : List UInt8) (h : c ∉ a) : Lib.cut (a ++ c :: r) [c] = (a, r, true) := by
  unfold Lib.cut
  rw [index_at c a r h, if_pos (by omega)]
  simp
theorem cut_none (c : UInt8) (l : List UInt8) (h : c ∉ l) : Lib.cut l [c] = (l, [], false) := by
  unfold Lib.cut
  rw [index_one c l h, if_neg (by omega)]
theorem cut_le (l sep : List UInt8) : (Lib.cut l sep).1.length ≤ l.length ∧ (Lib.cut l sep).2.1.length ≤ l.length := by
  unfold Lib.cut
  split
  · simp; omega
  · simp

/-! strings.IndexByte. -/
theorem index_in (c : UInt8) (l : List UInt8) : decide (0 ≤ Lib.indexByte l c) = l.any (fun x => decide (x = c)) := by
  induction l with
  | nil => rfl
  | cons b l ih =>
    have hg := Lib.indexByte_ge l c
    rw [Lib.indexByte, List.any_cons]
    by_cases h : b = c
    · rw [if_pos (by rw [h]; simp), decide_eq_true h, Bool.true_or]
      rfl
    · rw [if_neg (by simpa using h), decide_eq_false h, Bool.false_or, ← ih]
      by_cases h1 : Lib.indexByte l c = -1
      · rw [if_pos (by rw [h1]; rfl), h1]
      · rw [if_neg (by simpa using h1), decide_eq_decide]
        omega

/-! strconv.Atoi. -/
/-- The number beside the error. -/
def atoiV (l : List UInt8) : Int := match Lib.atoiAll l with
  | .ok v => v
  | .range => Lib.atoiSat l
  | _ => 0
theorem parse_dec : ∀ (n : Nat) (r : List UInt8), n ≤ 99999 → Lib.parseUint10 0 (Lib.decDigits n ++ r) = Lib.parseUint10 n r := by
  intro n
  induction n using Nat.strongRecOn with
  | ind n ih =>
    intro r hn
    by_cases h : n < 10
    · rw [dec1 n h]
      show Lib.parseUint10 0 (dgt n :: r) = _
      rw [Lib.parseUint10, dgt_nat n (by omega), if_pos ⟨by omega, by omega⟩, if_neg (by omega), if_neg (by omega)]
      congr 1
      omega
    · rw [decS n h, List.append_assoc, ih (n / 10) (by omega) _ (by omega)]
      show Lib.parseUint10 (n / 10) (dgt (n % 10) :: r) = _
      rw [Lib.parseUint10, dgt_nat _ (by omega), if_pos ⟨by omega, by omega⟩, if_neg (by omega), if_neg (by omega)]
      congr 1
      omega
theorem dec_head : ∀ n : Nat, ∃ c t, Lib.decDigits n = c :: t ∧ 48 ≤ c.toNat ∧ c.toNat ≤ 57 := by
  intro n
  induction n using Nat.strongRecOn with
  | ind n ih =>
    by_cases h : n < 10
    · exact ⟨dgt n, [], dec1 n h, by rw [dgt_nat n (by omega)]; omega, by rw [dgt_nat n (by omega)]; omega⟩
    · obtain ⟨c, t, e, h1, h2⟩ := ih (n / 10) (by omega)
      exact ⟨c, t ++ [dgt (n % 10)], by rw [decS n h, e]; rfl, h1, h2⟩
theorem atoi_dec (n : Nat) (hn : n ≤ 99999) : atoiV (Lib.decDigits n) = (n : Int) := by
  obtain ⟨c, t, e, h1, h2⟩ := dec_head n
  have hp := parse_dec n [] hn
  rw [List.append_nil] at hp
  unfold atoiV Lib.atoiAll
  rw [e] at hp ⊢
  have hm : Lib.parseMag (c :: t) = .ok n := by
    unfold Lib.parseMag
    rw [if_neg (by simp), hp]
    rfl
  have n1 : ¬ (c.toNat = 43 ∨ c.toNat = 45) := by omega
  simp only [if_neg n1, hm]
  rw [if_neg (by omega), if_neg (by omega), if_neg (by omega)]
theorem atoi_nil : atoiV [] = 0 := rfl

/-! strings.Join. -/
theorem join_K (L : List (List UInt8)) : ∀ k, k ≤ L.length → joinK [32] L k = Lib.join (L.take k) [32]
  | 0, _ => by rw [List.take_zero]; rfl
  | k + 1, h => by
    have hk : k < L.length := by omega
    have e : L.take (k + 1) = L.take k ++ [L[k]] := List.take_succ_eq_append_getElem hk
    have eg : L.getD k [] = L[k] := by rw [List.getD_eq_getElem?_getD, List.getElem?_eq_getElem hk]; rfl
    rw [joinK]
    by_cases h0 : k = 0
    · subst h0
      rw [if_pos rfl, e, List.take_zero, List.nil_append, Lib.join_one, eg]
    · rw [if_neg h0, join_K L k (by omega), e, eg]
      obtain ⟨x, r, hx⟩ : ∃ x r, L.take k = x :: r := by
        cases hL : L.take k with
        | nil =>
          have := congrArg List.length hL
          rw [List.length_take, List.length_nil] at this
          omega
        | cons x r => exact ⟨x, r, rfl⟩
      rw [hx, List.cons_append, Lib.join_cons, Lib.join_cons]
      unfold Lib.joinTail
      simp
theorem join_plain (L : List (List UInt8)) : Lib.join L [32] = joinK [32] L L.length := by
  have := join_K L L.length (Nat.le_refl _)
  rw [List.take_length] at this
  exact this.symm

/-! The field that the program reads off a line. -/
/-- How long the value is with which this begins. -/
def vlen : List UInt8 → Nat
  | [] => 0
  | [c] => if c = 36 then 0 else 1
  | c :: d :: t => if c = 36 then (if d = 36 then vlen t + 2 else 0) else vlen (d :: t) + 1
theorem vlen_le : ∀ l : List UInt8, vlen l ≤ l.length
  | [] => Nat.le_refl _
  | [c] => by rw [vlen]; split <;> simp
  | c :: d :: t => by
    have h1 := vlen_le (d :: t)
    have h2 := vlen_le t
    rw [vlen]
    split
    · split
      · simp; omega
      · simp
    · simp at h1 ⊢; omega
theorem vlen_other (c : UInt8) (l : List UInt8) (h : c ≠ 36) : vlen (c :: l) = vlen l + 1 := by
  cases l with
  | nil =>
    show vlen [c] = 1
    unfold vlen
    rw [if_neg h]
  | cons d t => rw [vlen, if_neg h]
theorem vlen_two (t : List UInt8) : vlen (36 :: 36 :: t) = vlen t + 2 := by rw [vlen, if_pos rfl, if_pos rfl]
theorem vlen_end (l : List UInt8) (h : l = [] ∨ l = [36] ∨ ∃ d t, l = 36 :: d :: t ∧ d ≠ 36) : vlen l = 0 := by
  rcases h with rfl | rfl | ⟨d, t, rfl, h⟩
  · rfl
  · rw [vlen, if_pos rfl]
  · rw [vlen, if_pos rfl, if_neg h]
theorem vlen_dbl : ∀ (v r : List UInt8), (r = [] ∨ ∃ d t, r = 36 :: d :: t ∧ d ≠ 36) → vlen (dblL v ++ r) = (dblL v).length
  | [], r, h => vlen_end r (by rcases h with h | h; exact .inl h; exact .inr (.inr h))
  | x :: t, r, h => by
    rw [dblL]
    by_cases hx : x = 36
    · rw [if_pos hx, List.cons_append, List.cons_append, vlen_two, vlen_dbl t r h]
      simp
    · rw [if_neg hx, List.cons_append, vlen_other x _ hx, vlen_dbl t r h]
      simp
/-- The subfields, at most k of them. -/
def subsK : Nat → List UInt8 → List Sub
  | 0, _ => []
  | _ + 1, [] => []
  | _ + 1, [_] => []
  | k + 1, _ :: c :: r => (c, halveL (r.take (vlen r))) :: subsK k (r.drop (vlen r))
theorem subs_K : ∀ (L : List Sub) (k : Nat), L.length ≤ k → (∀ i, i < L.length → codeB (L.getD i sub0).1 = true) → subsK k (bodyL L) = L
  | [], 0, _, _ => rfl
  | [], k + 1, _, _ => rfl
  | s :: t, 0, h, _ => by simp at h
  | s :: t, k + 1, hk, h => by
    have e : bodyL (s :: t) = 36 :: s.1 :: (dblL s.2 ++ bodyL t) := by simp [bodyL, subP]
    have ht : ∀ i, i < t.length → codeB (t.getD i sub0).1 = true := fun i hi => h (i + 1) (by simpa using hi)
    rw [e, subsK, vlen_dbl s.2 _ (body_form t ht), List.take_left, List.drop_left, halve_dbl, subs_K t k (by simpa using hk) ht]
def readP (s : List UInt8) : Fld :=
  ⟨(Lib.cut (Lib.cut s [32]).1 [64]).1, (Lib.cut (Lib.cut s [32]).2.1 [32]).1.map unB, subsK 17 (Lib.cut (Lib.cut s [32]).2.1 [32]).2.1, atoiV (Lib.cut (Lib.cut s [32]).1 [64]).2.1⟩
theorem digs_not (l : List UInt8) (c : UInt8) (hc : digB c = false) (h : ∀ i, i < l.length → digB (l.getD i 0) = true) : c ∉ l := by
  intro hm
  obtain ⟨i, hi, he⟩ := List.getElem_of_mem hm
  have := h i hi
  rw [List.getD_eq_getElem?_getD, List.getElem?_eq_getElem hi] at this
  simp only [Option.getD_some, he, hc] at this
  cases this
theorem dec_digs (n : Nat) : ∀ x, x ∈ Lib.decDigits n → digB x = true := by
  induction n using Nat.strongRecOn with
  | ind n ih =>
    intro x hx
    by_cases h : n < 10
    · rw [dec1 n h] at hx
      simp only [List.mem_singleton] at hx
      rw [hx]
      exact dig_of n h
    · rw [decS n h, List.mem_append, List.mem_singleton] at hx
      rcases hx with hx | hx
      · exact ih (n / 10) (by omega) x hx
      · rw [hx]
        exact dig_of _ (Nat.mod_lt _ (by decide))
theorem readP_line (f : Fld) (h : rightI f = 0) : readP (lineL f) = f := by
  obtain ⟨htag, hind, hn1, hn16, hsub, ha0, ha1⟩ := right_facts f h
  have hcode : ∀ i, i < f.subs.length → codeB (f.subs.getD i sub0).1 = true := fun i hi => (subE_zero _ (hsub i hi)).1
  have h3 := tagB_len _ htag
  have h2 := indsB_len _ hind
  obtain ⟨tag, ind, subs, au⟩ := f
  have htd : ∀ x, x ∈ tag → digB x = true := by
    match tag, h3 with
    | [t0, t1, t2], _ =>
      unfold tagB at htag
      simp only [Bool.and_eq_true] at htag
      obtain ⟨⟨⟨⟨_, g0⟩, g1⟩, g2⟩, _⟩ := htag
      intro x hx
      simp only [List.mem_cons, List.not_mem_nil, or_false] at hx
      rcases hx with rfl | rfl | rfl
      · exact g0
      · exact g1
      · exact g2
  have nott : ∀ c : UInt8, digB c = false → c ∉ tag := fun c hc hm => by
    have := htd c hm
    rw [hc] at this
    cases this
  match ind, h2 with
  | [i0, i1], _ =>
    have hi0 : indB i0 = true := by
      unfold indsB at hind
      simp only [Bool.and_eq_true] at hind
      exact hind.1.2
    have hi1 : indB i1 = true := by
      unfold indsB at hind
      simp only [Bool.and_eq_true] at hind
      exact hind.2
    obtain ⟨d0, m0, n0, u0⟩ := mark_form i0 hi0
    obtain ⟨d1, m1, n1, u1⟩ := mark_form i1 hi1
    have e : lineL ⟨tag, [i0, i1], subs, au⟩ = (tag ++ authP au) ++ 32 :: ([d0, d1] ++ 32 :: bodyL subs) := by
      unfold lineL headL
      show tag ++ authP au ++ 32 :: (markB i0 ++ markB i1 ++ [32]) ++ bodyL subs = _
      rw [m0, m1]
      simp
    have hap : 32 ∉ authP au ∧ Lib.cut (tag ++ authP au) [64] = (tag, (if au = 0 then [] else Lib.decDigits au.toNat), !decide (au = 0)) := by
      unfold authP
      by_cases hz : au = 0
      · rw [if_pos hz, if_pos hz, List.append_nil, decide_eq_true hz]
        exact ⟨by simp, cut_none 64 tag (nott 64 (by decide))⟩
      · have hp := dec_pos au.toNat
        have ep : padL 1 (Lib.decDigits au.toNat) = Lib.decDigits au.toNat := by
          unfold padL
          rw [show 1 - (Lib.decDigits au.toNat).length = 0 by omega]
          rfl
        rw [if_neg hz, if_neg hz, ep, decide_eq_false hz]
        refine ⟨?_, cut_at 64 tag _ (nott 64 (by decide))⟩
        intro hm
        rcases List.mem_cons.1 hm with h | h
        · revert h; decide
        · have := dec_digs _ _ h
          revert this
          decide
    have hc1 : Lib.cut (lineL ⟨tag, [i0, i1], subs, au⟩) [32] = (tag ++ authP au, [d0, d1] ++ 32 :: bodyL subs, true) := by
      rw [e]
      refine cut_at 32 _ _ ?_
      rw [List.mem_append, not_or]
      exact ⟨nott 32 (by decide), hap.1⟩
    have hc2 : Lib.cut ([d0, d1] ++ 32 :: bodyL subs) [32] = ([d0, d1], bodyL subs, true) := by
      refine cut_at 32 _ _ ?_
      simp only [List.mem_cons, List.not_mem_nil, or_false, not_or]
      exact ⟨fun h => n0 h.symm, fun h => n1 h.symm⟩
    unfold readP
    rw [hc1]
    simp only [hc2, hap.2]
    rw [subs_K subs 17 (by simp only at hn16; omega) hcode]
    have hau : atoiV (if au = 0 then [] else Lib.decDigits au.toNat) = au := by
      by_cases hz : au = 0
      · rw [if_pos hz, hz]; rfl
      · simp only at ha0 ha1
        rw [if_neg hz, atoi_dec _ (by omega), Int.toNat_of_nonneg ha0]
    rw [hau]
    simp only [List.map_cons, List.map_nil, u0, u1]
theorem readP_none (s : List UInt8) (h : ¬ (rightI (readP s) = 0 ∧ lineL (readP s) = s)) : parseO s = none := by
  cases hp : parseO s with
  | none => rfl
  | some g =>
    obtain ⟨h1, h2⟩ := parse_sound s g hp
    have := readP_line g h1
    rw [h2] at this
    rw [this] at h
    exact absurd ⟨h1, h2⟩ h
theorem readP_some (s : List UInt8) (h : rightI (readP s) = 0 ∧ lineL (readP s) = s) : parseO s = some (readP s) := by
  have := parse_back (readP s) h.1
  rwa [h.2] at this
end

section
open Go.RowKit
set_option maxHeartbeats 1000000 in
theorem allowed_any (c : Nat) (hc : c ≤ 1114111) (b : Bool) (hb : allow c = b) (w : World) :
    Calls Tryd.prog 78 #[.int .i32 (c : Int)] w fun e w' => e = .returned (.bool b) ∧ w = w' := by
  have H := Lib.hid hb
  clear hb
  by_cases h1 : 32 ≤ c
  · by_cases h2 : c ≤ 126
    · obtain rfl : b = true := by have := H.out; rw [← this]; simp [allow, h1, h2]
      have d1 : decide ((32 : Int) ≤ (c : Int)) = true := by simp; omega
      have d2 : decide ((c : Int) ≤ 126) = true := by simp; omega
      clear H h1 h2
      go_enter Tryd.func78, Tryd.ntmps78
      go_wp2
      go_ret
      exact ⟨rfl, rfl⟩
    · by_cases h3 : 160 ≤ c
      · have d1 : decide ((32 : Int) ≤ (c : Int)) = true := by simp; omega
        have d2 : decide ((c : Int) ≤ 126) = false := by simp; omega
        have d3 : decide ((160 : Int) ≤ (c : Int)) = true := by simp; omega
        by_cases h4 : c ≤ 65535
        · obtain rfl : b = true := by have := H.out; rw [← this]; simp [allow, h3, h4]
          have d4 : decide ((c : Int) ≤ 65535) = true := by simp; omega
          clear H h1 h2 h3 h4
          go_enter Tryd.func78, Tryd.ntmps78
          go_wp2
          go_ret
          exact ⟨rfl, rfl⟩
        · obtain rfl : b = false := by have := H.out; rw [← this]; simp [allow, h2, h4]
          have d4 : decide ((c : Int) ≤ 65535) = false := by simp; omega
          clear H h1 h2 h3 h4
          go_enter Tryd.func78, Tryd.ntmps78
          go_wp2
          go_ret
          exact ⟨rfl, rfl⟩
      · obtain rfl : b = false := by have := H.out; rw [← this]; simp [allow, h2, h3]
        have d1 : decide ((32 : Int) ≤ (c : Int)) = true := by simp; omega
        have d2 : decide ((c : Int) ≤ 126) = false := by simp; omega
        have d3 : decide ((160 : Int) ≤ (c : Int)) = false := by simp; omega
        clear H h1 h2 h3
        go_enter Tryd.func78, Tryd.ntmps78
        go_wp2
        go_ret
        exact ⟨rfl, rfl⟩
  · obtain rfl : b = false := by have := H.out; rw [← this]; simp [allow]; omega
    have d1 : decide ((32 : Int) ≤ (c : Int)) = false := by simp; omega
    have d3 : decide ((160 : Int) ≤ (c : Int)) = false := by simp; omega
    clear H h1
    go_enter Tryd.func78, Tryd.ntmps78
    go_wp2
    go_ret
    exact ⟨rfl, rfl⟩
end

end Go.Proofs.YtceneblmllpdnaaDoor
