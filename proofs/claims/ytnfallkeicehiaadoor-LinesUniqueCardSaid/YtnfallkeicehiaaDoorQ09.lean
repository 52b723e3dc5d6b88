/- Merged: Plain07C, Plain10, Plain10B. -/
import Derived.Test.YtnfallkeicehiaaDoorQ08
import Derived.Test.YtnfallkeicehiaaDoorQ07
import Derived.Lib.SplitLaws
import Derived.Lib.IndexMore
import Derived.Lib.CountLaws
import Derived.Lib.IndexLaws
namespace Go.Proofs.YtnfallkeicehiaaDoor

section
/-- The number that the digits make, and what stands behind it. -/
def authL : List UInt8 → Nat → Nat × List UInt8
  | [], a => (a, [])
  | c :: t, a => if digB c = true ∧ a ≤ 9999 then authL t (a * 10 + (c.toNat - 48)) else (a, c :: t)
/-- A value, and what stands behind it. -/
def valL : List UInt8 → List UInt8 × List UInt8
  | [] => ([], [])
  | [c] => if c ≠ 36 then ([c], []) else ([], [c])
  | c :: d :: t => if c ≠ 36 then (c :: (valL (d :: t)).1, (valL (d :: t)).2) else if d = 36 then (36 :: (valL t).1, (valL t).2) else ([], c :: d :: t)
theorem valL_other (c : UInt8) (l : List UInt8) (h : c ≠ 36) : valL (c :: l) = (c :: (valL l).1, (valL l).2) := by
  cases l with
  | nil =>
    show valL [c] = ([c], [])
    rw [valL, if_pos h]
  | cons d t => rw [valL, if_pos h]
theorem valL_two (t : List UInt8) : valL (36 :: 36 :: t) = (36 :: (valL t).1, (valL t).2) := by
  rw [valL, if_neg (fun h => h rfl), if_pos rfl]
theorem valL_end (l : List UInt8) (h : l = [] ∨ l = [36] ∨ ∃ d t, l = 36 :: d :: t ∧ d ≠ 36) : valL l = ([], l) := by
  rcases h with rfl | rfl | ⟨d, t, rfl, h⟩
  · rfl
  · rw [valL, if_neg (fun h => h rfl)]
  · rw [valL, if_neg (fun h => h rfl), if_neg h]
theorem valL_le : ∀ l : List UInt8, (valL l).2.length ≤ l.length
  | [] => Nat.le_refl _
  | [c] => by rw [valL]; split <;> simp
  | c :: d :: t => by
    have h1 := valL_le (d :: t)
    have h2 := valL_le t
    rw [valL]
    split
    · simp at h1 ⊢; omega
    · split
      · simp; omega
      · simp
def subsF : Nat → List UInt8 → Option (List Sub)
  | _, [] => some []
  | 0, _ :: _ => none
  | _ + 1, [_] => none
  | k + 1, c :: d :: t => if c ≠ 36 then none else (subsF k (valL t).2).map fun L => (d, (valL t).1) :: L
def unB (c : UInt8) : UInt8 := if c = 35 then 32 else c
def authR (l : List UInt8) : Nat × List UInt8 := if l.getD 0 0 = 64 then authL (l.drop 1) 0 else (0, l)
def readL (s : List UInt8) : Option Fld :=
  if s.length < 8 then none
  else if (authR (s.drop 3)).2.length < 4 ∨ (authR (s.drop 3)).2.getD 0 0 ≠ 32 ∨ (authR (s.drop 3)).2.getD 3 0 ≠ 32 then none
  else if (authR (s.drop 3)).2.getD 1 0 = 32 ∨ (authR (s.drop 3)).2.getD 2 0 = 32 then none
  else (subsF s.length ((authR (s.drop 3)).2.drop 4)).map fun L => ⟨s.take 3, [unB ((authR (s.drop 3)).2.getD 1 0), unB ((authR (s.drop 3)).2.getD 2 0)], L, ((authR (s.drop 3)).1 : Nat)⟩
/-- What Parse returns, if it is no error. -/
def parseO (s : List UInt8) : Option Fld :=
  match readL s with
  | none => none
  | some f => if rightI f = 0 ∧ lineL f = s then some f else none
theorem parse_sound (s : List UInt8) (f : Fld) (h : parseO s = some f) : rightI f = 0 ∧ lineL f = s := by
  unfold parseO at h
  split at h
  · cases h
  · split at h
    · cases h; assumption
    · cases h

theorem valL_dbl : ∀ (v r : List UInt8), (r = [] ∨ ∃ d t, r = 36 :: d :: t ∧ d ≠ 36) → valL (dblL v ++ r) = (v, r)
  | [], r, h => valL_end r (by rcases h with h | h; exact .inl h; exact .inr (.inr h))
  | x :: t, r, h => by
    rw [dblL]
    by_cases hx : x = 36
    · rw [if_pos hx, List.cons_append, List.cons_append, valL_two, valL_dbl t r h, hx]
    · rw [if_neg hx, List.cons_append, valL_other x _ hx, valL_dbl t r h]
theorem code_36 (c : UInt8) (h : codeB c = true) : c ≠ 36 := by
  rintro rfl
  exact absurd h (by decide)
theorem body_form (L : List Sub) (h : ∀ i, i < L.length → codeB (L.getD i sub0).1 = true) : bodyL L = [] ∨ ∃ d t, bodyL L = 36 :: d :: t ∧ d ≠ 36 := by
  cases L with
  | nil => exact .inl rfl
  | cons s t => exact .inr ⟨s.1, dblL s.2 ++ bodyL t, by simp [bodyL, subP], code_36 _ (h 0 (by simp))⟩
theorem subs_back : ∀ (L : List Sub) (k : Nat), (bodyL L).length ≤ k → (∀ i, i < L.length → codeB (L.getD i sub0).1 = true) → subsF k (bodyL L) = some L
  | [], k, _, _ => by
    show subsF k [] = _
    cases k <;> rfl
  | s :: t, k, hk, h => by
    have e : bodyL (s :: t) = 36 :: s.1 :: (dblL s.2 ++ bodyL t) := by simp [bodyL, subP]
    have ht : ∀ i, i < t.length → codeB (t.getD i sub0).1 = true := fun i hi => h (i + 1) (by simpa using hi)
    rw [e] at hk ⊢
    cases k with
    | zero => simp at hk
    | succ k =>
      rw [subsF, if_neg (fun h => h rfl), valL_dbl s.2 _ (body_form t ht), subs_back t k (by simp at hk; omega) ht]
      rfl
theorem dig_of (r : Nat) (h : r < 10) : digB (dgt r) = true := by
  rw [digB_iff, dgt_nat r (by omega)]
  omega
theorem auth_digits : ∀ (n : Nat) (r : List UInt8), n ≤ 99999 → authL (Lib.decDigits n ++ r) 0 = authL r n := by
  intro n
  induction n using Nat.strongRecOn with
  | ind n ih =>
    intro r hn
    by_cases h : n < 10
    · rw [dec1 n h]
      show authL (dgt n :: r) 0 = _
      rw [authL, if_pos ⟨dig_of n h, by omega⟩, dgt_nat n (by omega)]
      congr 1
      omega
    · rw [decS n h, List.append_assoc, ih (n / 10) (by omega) _ (by omega)]
      show authL (dgt (n % 10) :: r) (n / 10) = _
      rw [authL, if_pos ⟨dig_of _ (Nat.mod_lt _ (by decide)), by omega⟩, dgt_nat _ (by omega)]
      congr 1
      omega
theorem authR_back (n : Int) (h0 : 0 ≤ n) (h1 : n ≤ 9999) (r : List UInt8) : authR (authP n ++ 32 :: r) = (n.toNat, 32 :: r) := by
  unfold authP
  by_cases h : n = 0
  · subst h
    rfl
  · rw [if_neg h]
    have hp := dec_pos n.toNat
    have e : padL 1 (Lib.decDigits n.toNat) = Lib.decDigits n.toNat := by
      unfold padL
      rw [show 1 - (Lib.decDigits n.toNat).length = 0 by omega]
      rfl
    rw [e]
    show authR (64 :: (Lib.decDigits n.toNat ++ 32 :: r)) = _
    unfold authR
    rw [if_pos (by rfl), List.drop_succ_cons, List.drop_zero, auth_digits _ _ (by omega), authL, if_neg (fun hh => absurd hh.1 (by decide))]
theorem mark_form (c : UInt8) (h : indB c = true) : ∃ d, markB c = [d] ∧ d ≠ 32 ∧ unB d = c := by
  unfold markB
  by_cases h32 : c = 32
  · rw [if_pos h32]
    exact ⟨35, rfl, by decide, by rw [h32]; rfl⟩
  · rw [if_neg h32]
    refine ⟨c, rfl, h32, ?_⟩
    unfold unB
    rw [if_neg]
    rintro rfl
    exact absurd h (by decide)
theorem read_back (f : Fld) (h : rightI f = 0) : readL (lineL f) = some f := by
  obtain ⟨htag, hind, hn1, hn16, hsub, ha0, ha1⟩ := right_facts f h
  have hcode : ∀ i, i < f.subs.length → codeB (f.subs.getD i sub0).1 = true := fun i hi => (subE_zero _ (hsub i hi)).1
  have h3 := tagB_len _ htag
  have h2 := indsB_len _ hind
  obtain ⟨tag, ind, subs, au⟩ := f
  match tag, h3, ind, h2, subs with
  | [t0, t1, t2], _, [i0, i1], _, subs =>
    have hi0 : indB i0 = true := by
      unfold indsB at hind
      simp only [Bool.and_eq_true] at hind
      exact hind.1.2
    have hi1 : indB i1 = true := by
      unfold indsB at hind
      simp only [Bool.and_eq_true] at hind
      exact hind.2
    obtain ⟨d0, m0, n0, u0⟩ := mark_form i0 hi0
    obtain ⟨d1, m1, n1, u1⟩ := mark_form i1 hi1
    have e : lineL ⟨[t0, t1, t2], [i0, i1], subs, au⟩ = [t0, t1, t2] ++ (authP au ++ 32 :: (d0 :: d1 :: 32 :: bodyL subs)) := by
      unfold lineL headL
      show [t0, t1, t2] ++ authP au ++ 32 :: (markB i0 ++ markB i1 ++ [32]) ++ bodyL subs = _
      rw [m0, m1]
      simp
    have hdrop : ([t0, t1, t2] ++ (authP au ++ 32 :: (d0 :: d1 :: 32 :: bodyL subs))).drop 3 = authP au ++ 32 :: (d0 :: d1 :: 32 :: bodyL subs) := rfl
    have htake : ([t0, t1, t2] ++ (authP au ++ 32 :: (d0 :: d1 :: 32 :: bodyL subs))).take 3 = [t0, t1, t2] := rfl
    have hbl : 2 ≤ (bodyL subs).length := by
      cases subs with
      | nil => cases hn1
      | cons s t => simp [bodyL, subP]
    have hlen : ([t0, t1, t2] ++ (authP au ++ 32 :: (d0 :: d1 :: 32 :: bodyL subs))).length = 7 + (authP au).length + (bodyL subs).length := by simp; omega
    have hr := authR_back au ha0 ha1 (d0 :: d1 :: 32 :: bodyL subs)
    have hs := subs_back subs (7 + (authP au).length + (bodyL subs).length) (by omega) hcode
    unfold readL
    rw [e, hdrop, htake, hlen, hr, if_neg (by omega), if_neg, if_neg]
    · show (subsF _ (bodyL subs)).map _ = _
      rw [hs]
      show some (Fld.mk [t0, t1, t2] [unB d0, unB d1] subs ((au.toNat : Nat) : Int)) = _
      rw [u0, u1, Int.toNat_of_nonneg ha0]
    · show ¬ (d0 = 32 ∨ d1 = 32)
      exact fun h => h.elim n0 n1
    · show ¬ ((32 :: d0 :: d1 :: 32 :: bodyL subs).length < 4 ∨ (32 : UInt8) ≠ 32 ∨ (32 : UInt8) ≠ 32)
      simp
theorem parse_back (f : Fld) (h : rightI f = 0) : parseO (lineL f) = some f := by
  unfold parseO
  rw [read_back f h]
  show (if rightI f = 0 ∧ lineL f = lineL f then some f else none) = some f
  rw [if_pos ⟨h, rfl⟩]
theorem line_inj (f g : Fld) (hf : rightI f = 0) (hg : rightI g = 0) (h : lineL f = lineL g) : f = g := by
  have h1 := parse_back f hf
  rw [h, parse_back g hg] at h1
  exact (Option.some.inj h1).symm
end

section
/-! Numbers. -/
def padI (n k : Nat) : List UInt8 := padL k (Lib.decDigits n)
def valV (l : List UInt8) : Nat := l.foldl (fun n c => 10 * n + (c.toNat - 48)) 0
theorem valV_snoc (l : List UInt8) (c : UInt8) : valV (l ++ [c]) = 10 * valV l + (c.toNat - 48) := by
  simp [valV]
theorem valV_zeros : ∀ (k : Nat) (l : List UInt8), valV (List.replicate k 48 ++ l) = valV l
  | 0, l => by simp
  | k + 1, l => by
    have := valV_zeros k l
    rw [List.replicate_succ]
    show valV (48 :: (List.replicate k 48 ++ l)) = _
    rw [← this]
    rfl
theorem valV_dec : ∀ n, valV (Lib.decDigits n) = n := by
  intro n
  induction n using Nat.strongRecOn with
  | ind n ih =>
    by_cases h : n < 10
    · rw [dec1 n h]
      show 10 * 0 + ((dgt n).toNat - 48) = n
      rw [dgt_nat n (by omega)]
      omega
    · rw [decS n h, valV_snoc, ih (n / 10) (by omega), dgt_nat _ (by omega)]
      omega
theorem valV_pad (n k : Nat) : valV (padI n k) = n := by
  unfold padI padL
  rw [valV_zeros, valV_dec]
theorem dec_digits : ∀ n, (Lib.decDigits n).all digB = true := by
  intro n
  induction n using Nat.strongRecOn with
  | ind n ih =>
    by_cases h : n < 10
    · rw [dec1 n h]
      simp [dig_of n h]
    · rw [decS n h, List.all_append, ih (n / 10) (by omega)]
      simp [dig_of (n % 10) (by omega)]
theorem pad_digits (n k : Nat) : (padI n k).all digB = true := by
  unfold padI padL
  rw [List.all_append, dec_digits, Bool.and_true, List.all_eq_true]
  intro x hx
  rw [List.eq_of_mem_replicate hx]
  decide
theorem dec_len : ∀ (k n : Nat), n < 10 ^ (k + 1) → (Lib.decDigits n).length ≤ k + 1
  | 0, n, h => by rw [dec1 n (by omega)]; simp
  | k + 1, n, h => by
    by_cases h10 : n < 10
    · rw [dec1 n h10]; simp
    · rw [decS n h10]
      have := dec_len k (n / 10) (by rw [Nat.pow_succ] at h; omega)
      simp
      omega
theorem pad_len (n k : Nat) (h : n < 10 ^ (k + 1)) : (padI n (k + 1)).length = k + 1 := by
  have := dec_len k n h
  unfold padI padL
  simp
  omega
theorem pad_ge (n k : Nat) : k ≤ (padI n k).length := by
  unfold padI padL
  simp
  omega
theorem pad_le (n k : Nat) : (padI n k).length ≤ k + n + 1 := by
  have := dec_bound n
  unfold padI padL
  simp
  omega

/-! The bytes of a record. -/
def subX (s : Sub) : List UInt8 := 31 :: s.1 :: s.2
def subsX (L : List Sub) : List UInt8 := L.flatMap subX
def fldX (f : Fld) : List UInt8 := f.ind ++ padI f.auth.toNat 4 ++ subsX f.subs ++ [30]
def dirX : Nat → List Fld → List UInt8
  | _, [] => []
  | p, f :: t => f.tag ++ padI (fldX f).length 4 ++ padI p 5 ++ dirX (p + (fldX f).length) t
def bodX (L : List Fld) : List UInt8 := L.flatMap fldX
def kindC (k : Int) : UInt8 := if k = 1 then 98 else if k = 2 then 115 else if k = 3 then 109 else 100
def baseX (L : List Fld) : Nat := 24 + (dirX 0 L).length + 1
def totX (L : List Fld) : Nat := baseX L + (bodX L).length + 1
def leadX (r : Rec) : List UInt8 := padI (totX r.fields) 5 ++ [110] ++ [kindC r.kind] ++ padI r.ver.toNat 1 ++ r.lang ++ padI (baseX r.fields) 5 ++ padI r.id.toNat 4 ++ [52, 53, 48, 48]
def formX (r : Rec) : List UInt8 := leadX r ++ dirX 0 r.fields ++ [30] ++ bodX r.fields ++ [29]
def encX (r : Rec) : List UInt8 × Int := if rightRI r ≠ 0 then ([], rightRI r) else if 9999 < totX r.fields then ([], 4) else (formX r, 0)

theorem subsX_snoc (L : List Sub) (k : Nat) (h : k < L.length) : subsX (L.take (k + 1)) = subsX (L.take k) ++ subX (L.getD k sub0) := by
  unfold subsX
  rw [List.take_succ_eq_append_getElem h, List.flatMap_append, List.getD_eq_getElem?_getD, List.getElem?_eq_getElem h]
  simp
theorem bodX_snoc (L : List Fld) (k : Nat) (h : k < L.length) : bodX (L.take (k + 1)) = bodX (L.take k) ++ fldX (L.getD k fd0) := by
  unfold bodX
  rw [List.take_succ_eq_append_getElem h, List.flatMap_append, List.getD_eq_getElem?_getD, List.getElem?_eq_getElem h]
  simp
theorem dirX_app : ∀ (L M : List Fld) (p : Nat), dirX p (L ++ M) = dirX p L ++ dirX (p + (bodX L).length) M
  | [], M, p => by simp [dirX, bodX]
  | f :: t, M, p => by
    have := dirX_app t M (p + (fldX f).length)
    simp only [List.cons_append, dirX, this, List.append_assoc]
    have e : (bodX (f :: t)).length = (fldX f).length + (bodX t).length := by simp [bodX]
    rw [e, Nat.add_assoc]
theorem dirX_snoc (L : List Fld) (k : Nat) (h : k < L.length) :
    dirX 0 (L.take (k + 1)) = dirX 0 (L.take k) ++ ((L.getD k fd0).tag ++ padI (fldX (L.getD k fd0)).length 4 ++ padI (bodX (L.take k)).length 5) := by
  rw [List.take_succ_eq_append_getElem h, dirX_app, List.getD_eq_getElem?_getD, List.getElem?_eq_getElem h]
  simp [dirX]
theorem subsX_le : ∀ (L : List Sub) (m : Nat), (∀ i, i < L.length → (L.getD i sub0).2.length ≤ m) → (subsX L).length ≤ (m + 2) * L.length
  | [], _, _ => by simp [subsX]
  | s :: t, m, h => by
    have h0 := h 0 (by simp)
    have h1 := subsX_le t m (fun i hi => h (i + 1) (by simpa using hi))
    have e : (subsX (s :: t)).length = (s.2.length + 2) + (subsX t).length := by simp [subsX, subX]; omega
    have h0 : s.2.length ≤ m := h0
    rw [e, List.length_cons, Nat.mul_add]
    omega
/-- A valid field has at most so many bytes. -/
theorem right_len (f : Fld) (h : rightI f = 0) : (fldX f).length ≤ 4000 ∧ 7 ≤ (fldX f).length := by
  obtain ⟨ht, hi, h1, h16, hs, ha0, ha⟩ := right_facts f h
  have hsz := subsX_le f.subs 200 (fun i hi => (subE_zero _ (hs i hi)).2.2.2)
  have h2 := indsB_len _ hi
  have h4 := pad_len f.auth.toNat 3 (by omega)
  have : 202 * f.subs.length ≤ 202 * 16 := Nat.mul_le_mul_left _ h16
  unfold fldX
  simp only [List.length_append, h2, h4, List.length_cons, List.length_nil]
  omega
theorem right_rec (r : Rec) (h : rightRI r = 0) : 0 ≤ r.id ∧ r.id ≤ 9999 ∧ 1 ≤ r.ver ∧ r.ver ≤ 3 ∧ 1 ≤ r.kind ∧ r.kind ≤ 4 ∧ langB r.lang = true ∧ r.fields.length ≤ 64 ∧ ∀ f ∈ r.fields, rightI f = 0 := by
  unfold rightRI at h
  by_cases h0 : r.id < 0 ∨ 9999 < r.id
  · rw [if_pos h0] at h; cases h
  rw [if_neg h0] at h
  by_cases h1 : r.ver < 1 ∨ 3 < r.ver
  · rw [if_pos h1] at h; cases h
  rw [if_neg h1] at h
  by_cases h2 : r.kind < 1 ∨ 4 < r.kind
  · rw [if_pos h2] at h; cases h
  rw [if_neg h2] at h
  cases h3 : langB r.lang
  · rw [if_pos h3] at h; cases h
  rw [if_neg (by rw [h3]; intro h; cases h)] at h
  by_cases h4 : 64 < r.fields.length
  · rw [if_pos h4] at h; cases h
  rw [if_neg h4] at h
  exact ⟨by omega, by omega, by omega, by omega, by omega, by omega, rfl, by omega, (firstFE_zero _).1 h⟩
theorem bodX_le : ∀ (L : List Fld), (∀ f ∈ L, rightI f = 0) → (bodX L).length ≤ 4000 * L.length
  | [], _ => by simp [bodX]
  | f :: t, h => by
    have h0 := (right_len f (h f (by simp))).1
    have h1 := bodX_le t (fun g hg => h g (by simp [hg]))
    have e : (bodX (f :: t)).length = (fldX f).length + (bodX t).length := by simp [bodX]
    rw [e, List.length_cons, Nat.mul_add]
    omega
theorem pad_small (n k : Nat) (h : n < 100000000) : (padI n k).length ≤ k + 8 := by
  have := dec_len 7 n (by omega)
  unfold padI padL
  simp
  omega
theorem dirX_le : ∀ (L : List Fld) (p : Nat), (∀ f ∈ L, rightI f = 0) → p + 4000 * L.length < 100000000 → (dirX p L).length ≤ 28 * L.length
  | [], _, _, _ => by simp [dirX]
  | f :: t, p, h, hp => by
    have h0 := right_len f (h f (by simp))
    have h3 := tagB_len _ (right_facts f (h f (by simp))).1
    rw [List.length_cons, Nat.mul_add] at hp
    have h1 := dirX_le t (p + (fldX f).length) (fun g hg => h g (by simp [hg])) (by omega)
    have h4 := pad_small (fldX f).length 4 (by omega)
    have h5 := pad_small p 5 (by omega)
    simp only [dirX, List.length_append, List.length_cons, h3]
    omega
theorem lang_len (l : List UInt8) (h : langB l = true) : l.length = 3 := by
  unfold langB at h
  simp at h
  omega
theorem leadX_small (r : Rec) (h : rightRI r = 0) (ht : totX r.fields ≤ 99999) : (leadX r).length = 24 := by
  obtain ⟨a0, a1, a2, a3, a4, a5, a6, a7, a8⟩ := right_rec r h
  have h1 := pad_len (totX r.fields) 4 (by omega)
  have h2 := pad_len r.ver.toNat 0 (by omega)
  have h3 := lang_len _ a6
  have h4 := pad_len (baseX r.fields) 4 (by unfold totX at ht; omega)
  have h5 := pad_len r.id.toNat 3 (by omega)
  unfold leadX
  simp only [List.length_append, h1, h2, h3, h4, h5, List.length_cons, List.length_nil]
theorem leadX_ge (r : Rec) (h : rightRI r = 0) : 24 ≤ (leadX r).length := by
  obtain ⟨a0, a1, a2, a3, a4, a5, a6, a7, a8⟩ := right_rec r h
  have h1 := pad_ge (totX r.fields) 5
  have h2 := pad_ge r.ver.toNat 1
  have h3 := lang_len _ a6
  have h4 := pad_ge (baseX r.fields) 5
  have h5 := pad_ge r.id.toNat 4
  unfold leadX
  simp only [List.length_append, h3, List.length_cons, List.length_nil]
  omega
theorem formX_len (r : Rec) (h : rightRI r = 0) : 9999 < (formX r).length ↔ 9999 < totX r.fields := by
  have e : (formX r).length = (leadX r).length + (dirX 0 r.fields).length + 1 + (bodX r.fields).length + 1 := by
    unfold formX
    simp only [List.length_append, List.length_cons, List.length_nil]
  have e2 : totX r.fields = 24 + (dirX 0 r.fields).length + 1 + (bodX r.fields).length + 1 := rfl
  have g := leadX_ge r h
  by_cases ht : totX r.fields ≤ 99999
  · have := leadX_small r h ht
    omega
  · omega
theorem formX_eq (r : Rec) (h : rightRI r = 0) (ht : totX r.fields ≤ 9999) : (formX r).length = totX r.fields := by
  have e : (formX r).length = (leadX r).length + (dirX 0 r.fields).length + 1 + (bodX r.fields).length + 1 := by
    unfold formX
    simp only [List.length_append, List.length_cons, List.length_nil]
  have e2 : totX r.fields = 24 + (dirX 0 r.fields).length + 1 + (bodX r.fields).length + 1 := rfl
  have := leadX_small r h (by omega)
  omega
theorem totX_le (r : Rec) (h : rightRI r = 0) : totX r.fields ≤ 300000 := by
  obtain ⟨a0, a1, a2, a3, a4, a5, a6, a7, a8⟩ := right_rec r h
  have h1 := bodX_le r.fields a8
  have h2 := dirX_le r.fields 0 a8 (by omega)
  unfold totX baseX
  omega
/-- The bytes of what Encode returns are at least 26, and begin with their number. -/
theorem enc_ok (r : Rec) (s : List UInt8) (h : encX r = (s, 0)) : rightRI r = 0 ∧ totX r.fields ≤ 9999 ∧ formX r = s := by
  unfold encX at h
  by_cases h0 : rightRI r ≠ 0
  · rw [if_pos h0] at h
    exact absurd (Prod.mk.inj h).2 h0
  rw [if_neg h0] at h
  by_cases h1 : 9999 < totX r.fields
  · rw [if_pos h1] at h
    have := (Prod.mk.inj h).2
    cases this
  rw [if_neg h1] at h
  exact ⟨Decidable.not_not.1 h0, by omega, (Prod.mk.inj h).1⟩
theorem enc_of (r : Rec) (h : rightRI r = 0) (h1 : totX r.fields ≤ 9999) : encX r = (formX r, 0) := by
  unfold encX
  rw [if_neg (fun g => g h), if_neg (by omega)]
theorem encX_le (r : Rec) : (encX r).1.length ≤ 9999 := by
  unfold encX
  by_cases h0 : rightRI r ≠ 0
  · rw [if_pos h0]; simp
  rw [if_neg h0]
  by_cases h1 : 9999 < totX r.fields
  · rw [if_pos h1]; simp
  · rw [if_neg h1]
    show (formX r).length ≤ 9999
    rw [formX_eq r (Decidable.not_not.1 h0) (by omega)]
    omega
end

section
/-! Pieces between marks. -/
def splitX (c : UInt8) : List UInt8 → List (List UInt8)
  | [] => [[]]
  | x :: t => if x = c then [] :: splitX c t else match splitX c t with
    | h :: r => (x :: h) :: r
    | [] => [[x]]
theorem splitX_ne (c : UInt8) : ∀ l, splitX c l ≠ []
  | [] => by simp [splitX]
  | x :: t => by
    unfold splitX
    by_cases h : x = c
    · rw [if_pos h]; simp
    · rw [if_neg h]
      cases splitX c t <;> simp
theorem splitX_hit (c : UInt8) : ∀ (v t : List UInt8), c ∉ v → splitX c (v ++ c :: t) = v :: splitX c t
  | [], t, _ => by simp [splitX]
  | x :: v, t, h => by
    have hx : x ≠ c := fun e => h (by simp [e])
    have := splitX_hit c v t (fun g => h (by simp [g]))
    show splitX c (x :: (v ++ c :: t)) = _
    rw [splitX, if_neg hx, this]
theorem splitX_miss (c : UInt8) : ∀ (v : List UInt8), c ∉ v → splitX c v = [v]
  | [], _ => rfl
  | x :: v, h => by
    have hx : x ≠ c := fun e => h (by simp [e])
    have := splitX_miss c v (fun g => h (by simp [g]))
    rw [splitX, if_neg hx, this]
theorem splitX_len (c : UInt8) : ∀ (l : List UInt8), (splitX c l).length = l.count c + 1
  | [] => rfl
  | x :: t => by
    have ih := splitX_len c t
    rw [splitX, List.count_cons]
    by_cases h : x = c
    · rw [if_pos h, List.length_cons, ih]
      simp [h]
    · rw [if_neg h]
      cases e : splitX c t with
      | nil => exact absurd e (splitX_ne c t)
      | cons a r =>
        rw [e] at ih
        simp [h] at ih ⊢
        exact ih
theorem index_cons_ne (b c : UInt8) (t : List UInt8) (h : b ≠ c) : Lib.index (b :: t) [c] = if Lib.index t [c] = -1 then -1 else Lib.index t [c] + 1 := by
  rw [Lib.index]
  rw [if_neg (by simp; exact fun e => h e.symm)]
  by_cases g : Lib.index t [c] = -1
  · rw [if_pos g, g]; rfl
  · rw [if_neg g, if_neg (by simpa using g)]
theorem index_cons_eq (c : UInt8) (t : List UInt8) : Lib.index (c :: t) [c] = 0 := by
  rw [Lib.index, if_pos (by simp)]
theorem splitK_eq (c : UInt8) : ∀ (l : List UInt8), Lib.splitK [c] 0 (Lib.count l [c]) l = splitX c l
  | [] => by
    rw [Lib.count_one]
    rfl
  | x :: t => by
    have ih := splitK_eq c t
    by_cases h : x = c
    · subst h
      rw [Lib.count_cons_eq, Nat.add_comm, splitX, if_pos rfl, ← ih, Lib.splitK, index_cons_eq]
      rfl
    · rw [Lib.count_cons_ne _ _ _ h, splitX, if_neg h, ← ih]
      cases e : Lib.count t [c] with
      | zero => rfl
      | succ k =>
        rw [Lib.splitK, Lib.splitK, index_cons_ne x c t h]
        have hge := Lib.index_ge t [c]
        by_cases g : Lib.index t [c] = -1
        · rw [if_pos g, g]
          rfl
        · rw [if_neg g]
          obtain ⟨i, hi⟩ : ∃ i : Nat, Lib.index t [c] = i := ⟨(Lib.index t [c]).toNat, by omega⟩
          rw [hi]
          rfl
theorem split_data (c : UInt8) (l : List UInt8) : (Lib.splitB (S [c]) 0 (Lib.countB (S l) (S [c])) (S l)).map Value.string = (splitX c l).map strB := by
  have h := Lib.splitB_data (S [c]) 0 (Lib.countB (S l) (S [c])) (S l)
  have h2 : Lib.splitK [c] 0 (Lib.count l [c]) l = splitX c l := splitK_eq c l
  have h3 : (Lib.splitB (S [c]) 0 (Lib.countB (S l) (S [c])) (S l)).map (·.data.toList) = splitX c l := h.trans h2
  rw [← h3, List.map_map]
  rfl

/-! What package exchange reads. -/
def numOk (l : List UInt8) (k : Nat) : Bool := decide (k ≤ l.length) && (l.take k).all digB
def subE10 : List (List UInt8) → Option (List Sub)
  | [] => some []
  | [] :: _ => none
  | (c :: v) :: r => (subE10 r).map ((c, v) :: ·)
def fldE (tag b : List UInt8) : Option Fld :=
  if b.length < 2 ∨ numOk (b.drop 2) 4 = false then none
  else (subE10 (splitX 31 (Lib.trimSuffix (b.drop 6) [30])).tail).map fun L => ⟨tag, b.take 2, L, (valV ((b.drop 2).take 4) : Int)⟩
def dirE (l : List UInt8) : Option (List (List UInt8 × Nat) × List UInt8) :=
  if Lib.hasPrefix l [30] = true then some ([], l)
  else if _h : l.length < 12 ∨ numOk (l.drop 3) 4 = false then none
  else (dirE (l.drop 12)).map fun x => ((l.take 3, valV ((l.drop 3).take 4)) :: x.1, x.2)
termination_by l.length
decreasing_by
  rw [List.length_drop]
  omega
def bodE : List (List UInt8 × Nat) → List UInt8 → Option (List Fld)
  | [], _ => some []
  | (t, n) :: r, l => if l.length < n then none else match fldE t (l.take n) with
    | none => none
    | some f => (bodE r (l.drop n)).map (f :: ·)
def fieldsE (l : List UInt8) : Option (List Fld) :=
  match dirE l with
  | none => none
  | some (T, r) => bodE T (r.drop 1)
def kindE (c : UInt8) : Int := Lib.indexByte [98, 115, 109, 100] c + 1
def recE (s : List UInt8) : Option Rec :=
  if s.length < 7 ∨ numOk (s.drop 7) 1 = false ∨ s.length < 16 ∨ numOk (s.drop 16) 4 = false ∨ s.length < 24 then none
  else (fieldsE (s.drop 24)).map fun F => ⟨(valV ((s.drop 16).take 4) : Int), (valV ((s.drop 7).take 1) : Int), kindE (s.getD 6 0), (s.drop 8).take 3, F⟩
def decE (s : List UInt8) : Rec × Int :=
  if 9999 < s.length then (rec0, 3) else match recE s with
  | none => (rec0, 3)
  | some r => if encX r = (s, 0) then (r, 0) else (rec0, 3)

/-! It reads a record's bytes. -/
theorem num_at (n k : Nat) (t : List UInt8) (h : n < 10 ^ (k + 1)) : numOk (padI n (k + 1) ++ t) (k + 1) = true ∧ valV ((padI n (k + 1) ++ t).take (k + 1)) = n ∧ (padI n (k + 1) ++ t).drop (k + 1) = t := by
  have hl := pad_len n k h
  have ht : (padI n (k + 1) ++ t).take (k + 1) = padI n (k + 1) := List.take_left' hl
  refine ⟨?_, ?_, List.drop_left' hl⟩
  · unfold numOk
    rw [ht, pad_digits, Bool.and_true, List.length_append, hl]
    simp
  · rw [ht, valV_pad]
theorem enc_byte (c : Nat) (h : okc c) : ∀ b ∈ Lib.encodeRune (c : Int), 32 ≤ b.toNat := by
  unfold Lib.encodeRune
  by_cases h1 : c ≤ 127
  · rw [Lib.encodeRuneZ_one (by omega) (by omega)]
    intro b hb
    simp only [List.map_cons, List.map_nil, List.mem_cons, List.not_mem_nil, or_false] at hb
    rw [hb, toByteNat _ (by omega) (by omega)]
    unfold okc at h
    omega
  by_cases h2 : c ≤ 2047
  · rw [Lib.encodeRuneZ_two (by omega) (by omega)]
    intro b hb
    simp only [List.map_cons, List.map_nil, List.mem_cons, List.not_mem_nil, or_false] at hb
    rcases hb with rfl | rfl
    · rw [toByteNat _ (by omega) (by omega)]; omega
    · rw [toByteNat _ (by omega) (by omega)]; omega
  · rw [Lib.encodeRuneZ_three (by unfold okc at h; omega)]
    intro b hb
    simp only [List.map_cons, List.map_nil, List.mem_cons, List.not_mem_nil, or_false] at hb
    rcases hb with rfl | rfl | rfl
    · rw [toByteNat _ (by omega) (by unfold okc at h; omega)]; omega
    · rw [toByteNat _ (by omega) (by omega)]; omega
    · rw [toByteNat _ (by omega) (by omega)]; omega
theorem valid_byte (l : List UInt8) (h : validT l = true) : ∀ b ∈ l, 32 ≤ b.toNat := by
  obtain ⟨cs, hc, rfl⟩ := validT_text l h
  intro b hb
  unfold enc at hb
  obtain ⟨c, hm, hb⟩ := List.mem_flatMap.1 hb
  exact enc_byte c (hc c hm) b hb
theorem code_byte (c : UInt8) (h : codeB c = true) : 48 ≤ c.toNat := by
  unfold codeB digB at h
  simp at h
  omega
theorem digB_ne (c : UInt8) (h : digB c = true) : c ≠ 30 ∧ c ≠ 31 := by
  have := (digB_iff c).1 h
  exact ⟨fun e => by rw [e] at this; exact absurd this.1 (by decide), fun e => by rw [e] at this; exact absurd this.1 (by decide)⟩
/-- The subfields between the marks. -/
theorem subs_split : ∀ (L : List Sub), (∀ i, i < L.length → subE (L.getD i sub0) = 0) → ∀ v : List UInt8, 31 ∉ v → splitX 31 (v ++ subsX L) = v :: L.map fun s => s.1 :: s.2
  | [], _, v, hv => by
    show splitX 31 (v ++ []) = _
    rw [List.append_nil]
    exact splitX_miss 31 v hv
  | s :: t, h, v, hv => by
    obtain ⟨h1, h2, h3, h4⟩ := subE_zero s (h 0 (by simp))
    have hc := code_byte _ h1
    have hb := valid_byte _ h3
    have e : v ++ subsX (s :: t) = v ++ 31 :: ((s.1 :: s.2) ++ subsX t) := by simp [subsX, subX]
    rw [e, splitX_hit 31 v _ hv, subs_split t (fun i hi => h (i + 1) (by simpa using hi)) (s.1 :: s.2) ?_]
    · rfl
    · intro g
      rcases List.mem_cons.1 g with g | g
      · rw [← g] at hc
        exact absurd hc (by decide)
      · have := hb _ g
        exact absurd this (by decide)
theorem subE10_map : ∀ L : List Sub, subE10 (L.map fun s => s.1 :: s.2) = some L
  | [] => rfl
  | s :: t => by
    show (subE10 (t.map fun s => s.1 :: s.2)).map ((s.1, s.2) :: ·) = _
    rw [subE10_map t]
    rfl
theorem trim_last (l : List UInt8) : Lib.trimSuffix (l ++ [30]) [30] = l := by
  unfold Lib.trimSuffix
  rw [if_pos]
  · simp
  · simp [Lib.hasSuffix]
theorem fld_back (f : Fld) (h : rightI f = 0) : fldE f.tag (fldX f) = some f := by
  obtain ⟨ht, hi, h1, h16, hs, ha0, ha⟩ := right_facts f h
  have h2 := indsB_len _ hi
  have e : fldX f = f.ind ++ (padI f.auth.toNat 4 ++ (subsX f.subs ++ [30])) := by simp [fldX]
  have d2 : (fldX f).drop 2 = padI f.auth.toNat 4 ++ (subsX f.subs ++ [30]) := by rw [e]; exact List.drop_left' h2
  obtain ⟨n1, n2, n3⟩ := num_at f.auth.toNat 3 (subsX f.subs ++ [30]) (by omega)
  have d6 : (fldX f).drop 6 = subsX f.subs ++ [30] := by
    rw [show (6 : Nat) = 2 + 4 from rfl, ← List.drop_drop, d2]
    exact n3
  have t2 : (fldX f).take 2 = f.ind := by rw [e]; exact List.take_left' h2
  have hsp := subs_split f.subs hs [] (by simp)
  rw [List.nil_append] at hsp
  unfold fldE
  rw [if_neg, d6, trim_last, hsp, List.tail_cons, subE10_map, d2, n2, t2]
  · show some _ = some f
    congr 1
    have : ((f.auth.toNat : Nat) : Int) = f.auth := by omega
    rw [this]
  · rw [d2, n1]
    have := (right_len f h).2
    intro g
    rcases g with g | g
    · omega
    · cases g
theorem dir_back : ∀ (L : List Fld) (p : Nat) (t : List UInt8), (∀ f ∈ L, rightI f = 0) → p + (bodX L).length < 100000 → dirE (dirX p L ++ 30 :: t) = some (L.map fun f => (f.tag, (fldX f).length), 30 :: t)
  | [], p, t, _, _ => by
    show dirE (30 :: t) = _
    rw [dirE, if_pos (by simp [Lib.hasPrefix])]
    rfl
  | f :: r, p, t, h, hp => by
    have e0 : (bodX (f :: r)).length = (fldX f).length + (bodX r).length := by simp [bodX]
    rw [e0] at hp
    have hr := h f (by simp)
    have hl := right_len f hr
    have ih := dir_back r (p + (fldX f).length) t (fun g hg => h g (by simp [hg])) (by omega)
    obtain ⟨htag, _⟩ := right_facts f hr
    have h3 := tagB_len _ htag
    obtain ⟨n1, n2, n3⟩ := num_at (fldX f).length 3 (padI p 5 ++ (dirX (p + (fldX f).length) r ++ 30 :: t)) (by omega)
    obtain ⟨_, _, m3⟩ := num_at p 4 (dirX (p + (fldX f).length) r ++ 30 :: t) (by omega)
    have e : dirX p (f :: r) ++ 30 :: t = f.tag ++ (padI (fldX f).length 4 ++ (padI p 5 ++ (dirX (p + (fldX f).length) r ++ 30 :: t))) := by simp [dirX]
    generalize dirX p (f :: r) ++ 30 :: t = Z at e
    have d3 : Z.drop 3 = padI (fldX f).length 4 ++ (padI p 5 ++ (dirX (p + (fldX f).length) r ++ 30 :: t)) := by rw [e]; exact List.drop_left' h3
    have t3 : Z.take 3 = f.tag := by rw [e]; exact List.take_left' h3
    have d12 : Z.drop 12 = dirX (p + (fldX f).length) r ++ 30 :: t := by
      rw [show (12 : Nat) = 3 + 4 + 5 from rfl, ← List.drop_drop, ← List.drop_drop, d3, n3]
      exact m3
    have hlen : 12 ≤ Z.length := by
      have := congrArg List.length e
      have h4 := pad_len (fldX f).length 3 (by omega)
      have h5 := pad_len p 4 (by omega)
      simp only [List.length_append, h3, h4, h5] at this
      omega
    have hz : Lib.hasPrefix Z [30] = false := by
      have htg : digB (f.tag.getD 0 0) = true := by
        unfold tagB at htag
        simp only [Bool.and_eq_true] at htag
        exact htag.1.1.1.2
      rw [e]
      match f.tag, h3, htg with
      | a :: q, _, htg =>
        have := (digB_ne a htg).1
        show ((30 : UInt8) == a && _) = false
        rw [beq_eq_false_iff_ne.2 (fun g => this (Eq.symm g))]
        rfl
    rw [dirE, if_neg (by rw [hz]; intro g; cases g), dif_neg, d12, ih, d3, n2, t3]
    · rfl
    · rw [d3, n1]
      intro g
      rcases g with g | g
      · omega
      · cases g
theorem bod_back : ∀ (L : List Fld) (t : List UInt8), (∀ f ∈ L, rightI f = 0) → bodE (L.map fun f => (f.tag, (fldX f).length)) (bodX L ++ t) = some L
  | [], _, _ => rfl
  | f :: r, t, h => by
    have ih := bod_back r t (fun g hg => h g (by simp [hg]))
    have e : bodX (f :: r) ++ t = fldX f ++ (bodX r ++ t) := by simp [bodX]
    rw [List.map_cons, bodE, e, if_neg (by simp), List.take_left' rfl, fld_back f (h f (by simp)), List.drop_left' rfl, ih]
    rfl
theorem kind_back (k : Int) (h1 : 1 ≤ k) (h4 : k ≤ 4) : kindE (kindC k) = k := by
  have : k = 1 ∨ k = 2 ∨ k = 3 ∨ k = 4 := by omega
  rcases this with rfl | rfl | rfl | rfl <;> decide
theorem rec_back (r : Rec) (h : rightRI r = 0) (ht : totX r.fields ≤ 9999) : recE (formX r) = some r := by
  obtain ⟨a0, a1, a2, a3, a4, a5, a6, a7, a8⟩ := right_rec r h
  have h3 := lang_len _ a6
  have hb : baseX r.fields ≤ totX r.fields := by unfold totX; omega
  obtain ⟨X1, hX1⟩ : ∃ X, dirX 0 r.fields ++ 30 :: (bodX r.fields ++ [29]) = X := ⟨_, rfl⟩
  obtain ⟨X2, hX2⟩ : ∃ X, [52, 53, 48, 48] ++ X1 = X := ⟨_, rfl⟩
  have p0 := pad_len (totX r.fields) 4 (by omega)
  obtain ⟨_, _, p3⟩ := num_at (totX r.fields) 4 (110 :: kindC r.kind :: (padI r.ver.toNat 1 ++ (r.lang ++ (padI (baseX r.fields) 5 ++ (padI r.id.toNat 4 ++ X2))))) (by omega)
  obtain ⟨v1, v2, v3⟩ := num_at r.ver.toNat 0 (r.lang ++ (padI (baseX r.fields) 5 ++ (padI r.id.toNat 4 ++ X2))) (by omega)
  obtain ⟨_, _, b3⟩ := num_at (baseX r.fields) 4 (padI r.id.toNat 4 ++ X2) (by omega)
  obtain ⟨i1, i2, i3⟩ := num_at r.id.toNat 3 X2 (by omega)
  have e : formX r = padI (totX r.fields) 5 ++ (110 :: kindC r.kind :: (padI r.ver.toNat 1 ++ (r.lang ++ (padI (baseX r.fields) 5 ++ (padI r.id.toNat 4 ++ X2))))) := by
    rw [← hX2, ← hX1]
    simp [formX, leadX]
  have hlen := formX_eq r h ht
  have htot : 26 ≤ totX r.fields := by unfold totX baseX; omega
  generalize formX r = Z at e hlen
  have d5 : Z.drop 5 = 110 :: kindC r.kind :: (padI r.ver.toNat 1 ++ (r.lang ++ (padI (baseX r.fields) 5 ++ (padI r.id.toNat 4 ++ X2)))) := by rw [e]; exact p3
  have d7 : Z.drop 7 = padI r.ver.toNat 1 ++ (r.lang ++ (padI (baseX r.fields) 5 ++ (padI r.id.toNat 4 ++ X2))) := by
    rw [show (7 : Nat) = 5 + 2 from rfl, ← List.drop_drop, d5]
    rfl
  have d8 : Z.drop 8 = r.lang ++ (padI (baseX r.fields) 5 ++ (padI r.id.toNat 4 ++ X2)) := by
    rw [show (8 : Nat) = 7 + 1 from rfl, ← List.drop_drop, d7]
    exact v3
  have d11 : Z.drop 11 = padI (baseX r.fields) 5 ++ (padI r.id.toNat 4 ++ X2) := by
    rw [show (11 : Nat) = 8 + 3 from rfl, ← List.drop_drop, d8]
    exact List.drop_left' h3
  have d16 : Z.drop 16 = padI r.id.toNat 4 ++ X2 := by
    rw [show (16 : Nat) = 11 + 5 from rfl, ← List.drop_drop, d11]
    exact b3
  have d24 : Z.drop 24 = X1 := by
    rw [show (24 : Nat) = 16 + 4 + 4 from rfl, ← List.drop_drop, ← List.drop_drop, d16, i3, ← hX2]
    rfl
  have g6 : Z.getD 6 0 = kindC r.kind := by
    have : (Z.drop 5).getD 1 0 = Z.getD 6 0 := by simp [List.getD_eq_getElem?_getD, List.getElem?_drop]
    rw [← this, d5]
    rfl
  have hf : fieldsE X1 = some r.fields := by
    unfold fieldsE
    have hb2 : (bodX r.fields).length < 100000 := by unfold totX at ht; omega
    rw [← hX1, dir_back r.fields 0 _ a8 (by omega)]
    show bodE _ (bodX r.fields ++ [29]) = _
    exact bod_back r.fields [29] a8
  unfold recE
  rw [if_neg, d24, hf, d16, i2, d7, v2, g6, d8, List.take_left' h3, kind_back _ a4 a5]
  · show some _ = some r
    congr 1
    have q1 : ((r.id.toNat : Nat) : Int) = r.id := by omega
    have q2 : ((r.ver.toNat : Nat) : Int) = r.ver := by omega
    rw [q1, q2]
  · rw [d7, v1, d16, i1]
    intro g
    rcases g with g | g | g | g | g
    · omega
    · cases g
    · omega
    · cases g
    · omega
/-- What Decode reads is the record whose bytes they are. -/
theorem decE_iff (s : List UInt8) (r : Rec) : decE s = (r, 0) ↔ encX r = (s, 0) := by
  constructor
  · intro h
    unfold decE at h
    by_cases hl : 9999 < s.length
    · rw [if_pos hl] at h
      have := (Prod.mk.inj h).2
      cases this
    rw [if_neg hl] at h
    cases e : recE s with
    | none =>
      rw [e] at h
      have := (Prod.mk.inj h).2
      cases this
    | some q =>
      rw [e] at h
      simp only at h
      by_cases hq : encX q = (s, 0)
      · rw [if_pos hq] at h
        obtain rfl := (Prod.mk.inj h).1
        exact hq
      · rw [if_neg hq] at h
        have := (Prod.mk.inj h).2
        cases this
  · intro h
    obtain ⟨h1, h2, rfl⟩ := enc_ok r s h
    unfold decE
    rw [if_neg (by rw [formX_eq r h1 h2]; omega), rec_back r h1 h2]
    simp only
    rw [if_pos h]
theorem decE_bad (s : List UInt8) (h : ∀ r, encX r ≠ (s, 0)) : decE s = (rec0, 3) := by
  unfold decE
  by_cases hl : 9999 < s.length
  · rw [if_pos hl]
  rw [if_neg hl]
  cases e : recE s with
  | none => rfl
  | some q =>
    simp only
    rw [if_neg (h q)]
end

end Go.Proofs.YtnfallkeicehiaaDoor
