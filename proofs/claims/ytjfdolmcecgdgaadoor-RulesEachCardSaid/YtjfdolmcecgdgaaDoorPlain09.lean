/- Plain words of layer 9: rules. No program is named here. -/
import Derived.Test.YtjfdolmcecgdgaaDoorPlain07
namespace Go.Proofs.YtjfdolmcecgdgaaDoor

structure Rul where
  tag : List UInt8
  rep : Bool
  must : Bool
  codes : List UInt8
  once : List UInt8
  needs : List UInt8
  auth : Int
def rul0 : Rul := ⟨[], false, false, [], [], [], 0⟩
structure Prb where
  kind : Int
  index : Int
  tag : List UInt8
  code : UInt8
def prb0 : Prb := ⟨0, 0, [], 0⟩
def sameRul (a b : Rul) : Bool := decide (a.tag = b.tag) && decide (a.rep = b.rep) && decide (a.must = b.must) && decide (a.codes = b.codes) && decide (a.once = b.once) && decide (a.needs = b.needs) && decide (a.auth = b.auth)
theorem sameRul_iff (a b : Rul) : sameRul a b = true ↔ a = b := by
  cases a; cases b
  simp only [sameRul, Bool.and_eq_true, decide_eq_true_eq, Rul.mk.injEq]
  constructor
  · rintro ⟨⟨⟨⟨⟨⟨h1, h2⟩, h3⟩, h4⟩, h5⟩, h6⟩, h7⟩; exact ⟨h1, h2, h3, h4, h5, h6, h7⟩
  · rintro ⟨h1, h2, h3, h4, h5, h6, h7⟩; exact ⟨⟨⟨⟨⟨⟨h1, h2⟩, h3⟩, h4⟩, h5⟩, h6⟩, h7⟩
def samePrb (a b : Prb) : Bool := decide (a.kind = b.kind) && decide (a.index = b.index) && decide (a.tag = b.tag) && decide (a.code = b.code)
theorem samePrb_iff (a b : Prb) : samePrb a b = true ↔ a = b := by
  cases a; cases b
  simp only [samePrb, Bool.and_eq_true, decide_eq_true_eq, Prb.mk.injEq]
  constructor
  · rintro ⟨⟨⟨h1, h2⟩, h3⟩, h4⟩; exact ⟨h1, h2, h3, h4⟩
  · rintro ⟨h1, h2, h3, h4⟩; exact ⟨⟨⟨h1, h2⟩, h3⟩, h4⟩
theorem list_ext_at {α : Type} (d : α) (A B : List α) (hl : A.length = B.length) (h : ∀ i, i < A.length → A.getD i d = B.getD i d) : A = B := by
  refine List.ext_getElem hl fun i h1 h2 => ?_
  have := h i h1
  rwa [List.getD_eq_getElem?_getD, List.getD_eq_getElem?_getD, List.getElem?_eq_getElem h1, List.getElem?_eq_getElem h2] at this
theorem range_all_true (p : Nat → Bool) (n : Nat) (h : ∀ i, i < n → p i = true) : (List.range n).all p = true := by
  rw [List.all_eq_true]
  intro i hi
  exact h i (List.mem_range.1 hi)
theorem range_all_false (p : Nat → Bool) (n k : Nat) (hk : k < n) (h : p k = false) : (List.range n).all p = false := by
  rw [List.all_eq_false]
  exact ⟨k, List.mem_range.2 hk, by rw [h]; exact Bool.false_ne_true⟩

/-! Codes. -/
def hasB (l : List UInt8) (c : UInt8) : Bool := l.any fun y => decide (y = c)
def codeAt (s : List UInt8) (i : Nat) : Bool := codeB (s.getD i 0) && (decide (i = 0) || decide ((s.getD (i - 1) 0).toNat < (s.getD i 0).toNat))
def codesB (s : List UInt8) : Bool := (List.range s.length).all (codeAt s)
def withinB (all s : List UInt8) : Bool := (List.range s.length).all fun i => hasB all (s.getD i 0)
def choiceB (s codes : List UInt8) : Bool := withinB codes s && codesB s

/-! Right. -/
def leB (a b : List UInt8) : Bool := Op.bytesLess a b || (a == b)
def formB (t : Rul) : Bool := decide (t.codes ≠ []) && codesB t.codes && codesB t.once && codesB t.needs && withinB t.codes t.once && withinB t.codes t.needs
def errR (first : Bool) (before : List UInt8) (t : Rul) : Int :=
  if tagB t.tag = false then 6 else if first = false ∧ leB t.tag before = true then 7 else if formB t = false then 3 else if t.auth < 0 ∨ 4 < t.auth then 1 else 0
def errAt (l : List Rul) (i : Nat) : Int := errR (decide (i = 0)) (l.getD (i - 1) rul0).tag (l.getD i rul0)
def rightL (l : List Rul) : Int := if 32 < l.length then 13 else ((List.range l.length).find? fun i => decide (errAt l i ≠ 0)).elim 0 (errAt l)
theorem find_range (p : Nat → Bool) (n k : Nat) (hk : k < n) (h : ∀ j, j < k → p j = false) (hp : p k = true) : (List.range n).find? p = some k := by
  rw [List.find?_eq_some_iff_append]
  refine ⟨hp, List.range k, (List.range (n - k - 1)).map (fun j => k + 1 + j), ?_, fun j hj => by rw [h j (List.mem_range.1 hj)]; rfl⟩
  refine List.ext_getElem (by simp; omega) fun i h1 h2 => ?_
  rw [List.getElem_range]
  rcases Nat.lt_trichotomy i k with hlt | rfl | hgt
  · rw [List.getElem_append_left (by simpa using hlt), List.getElem_range]
  · rw [List.getElem_append_right (by simp)]
    simp
  · rw [List.getElem_append_right (by simp; omega)]
    simp only [List.length_range]
    obtain ⟨m, rfl⟩ : ∃ m, i = k + 1 + m := ⟨i - k - 1, by omega⟩
    simp only [show k + 1 + m - k = m + 1 by omega, List.getElem_cons_succ, List.getElem_map, List.getElem_range]
theorem rightL_long (l : List Rul) (h : 32 < l.length) : rightL l = 13 := if_pos h
theorem rightL_hit (l : List Rul) (hl : ¬ 32 < l.length) (k : Nat) (hk : k < l.length) (h : ∀ j, j < k → errAt l j = 0) (he : errAt l k ≠ 0) : rightL l = errAt l k := by
  unfold rightL
  rw [if_neg hl, find_range _ _ k hk (fun j hj => by simp [h j hj]) (by simp [he])]
  rfl
theorem rightL_miss (l : List Rul) (hl : ¬ 32 < l.length) (h : ∀ j, j < l.length → errAt l j = 0) : rightL l = 0 := by
  unfold rightL
  rw [if_neg hl]
  have : (List.range l.length).find? (fun i => decide (errAt l i ≠ 0)) = none := by
    rw [List.find?_eq_none]
    intro i hi
    simp [h i (List.mem_range.1 hi)]
  rw [this]
  rfl

/-! Find. -/
def findR : List Rul → List UInt8 → Rul × Bool
  | [], _ => (rul0, false)
  | t :: s, g => if t.tag = g then (t, true) else findR s g
theorem findR_hit : ∀ (L : List Rul) (g : List UInt8) (k : Nat), k < L.length → (∀ j, j < k → (L.getD j rul0).tag ≠ g) → (L.getD k rul0).tag = g → findR L g = (L.getD k rul0, true)
  | [], _, _, hk, _, _ => by cases hk
  | s :: t, c, 0, _, _, he => by
    have he : s.tag = c := he
    rw [findR, if_pos he]
    rfl
  | s :: t, c, k + 1, hk, h, he => by
    have h0 : ¬ s.tag = c := h 0 (Nat.succ_pos k)
    rw [findR, if_neg h0]
    exact findR_hit t c k (by simpa using hk) (fun j hj => h (j + 1) (by omega)) he
theorem findR_miss : ∀ (L : List Rul) (g : List UInt8), (∀ j, j < L.length → (L.getD j rul0).tag ≠ g) → findR L g = (rul0, false)
  | [], _, _ => rfl
  | s :: t, c, h => by
    have h0 : ¬ s.tag = c := h 0 (by simp)
    rw [findR, if_neg h0]
    exact findR_miss t c (fun j hj => h (j + 1) (by simpa using hj))
theorem findR_cases : ∀ (L : List Rul) (g : List UInt8), ((findR L g).2 = false ∧ (findR L g).1 = rul0) ∨ ((findR L g).2 = true ∧ (findR L g).1 ∈ L ∧ (findR L g).1.tag = g)
  | [], _ => .inl ⟨rfl, rfl⟩
  | t :: s, g => by
    rw [findR]
    by_cases h : t.tag = g
    · rw [if_pos h]
      exact .inr ⟨rfl, List.mem_cons_self .., h⟩
    · rw [if_neg h]
      rcases findR_cases s g with h' | ⟨h1, h2, h3⟩
      · exact .inl h'
      · exact .inr ⟨h1, List.mem_cons_of_mem _ h2, h3⟩

/-! Check. -/
def tagIn (L : List Fld) (g : List UInt8) : Bool := L.any fun f => decide (f.tag = g)
def codeIn (L : List Sub) (c : UInt8) : Bool := L.any fun s => decide (s.1 = c)
def mustP (fs : List Fld) (t : Rul) : List Prb := if (t.must && !(tagIn fs t.tag)) = true then [⟨1, -1, t.tag, 0⟩] else []
def mustL (l : List Rul) (fs : List Fld) : List Prb := l.flatMap (mustP fs)
def subP (t : Rul) (f : Fld) (i : Int) (k : Nat) : List Prb :=
  if hasB t.codes (f.subs.getD k sub0).1 = false then [⟨4, i, f.tag, (f.subs.getD k sub0).1⟩]
  else if (hasB t.once (f.subs.getD k sub0).1 && codeIn (f.subs.take k) (f.subs.getD k sub0).1) = true then [⟨5, i, f.tag, (f.subs.getD k sub0).1⟩] else []
def needP (t : Rul) (f : Fld) (i : Int) (k : Nat) : List Prb := if codeIn f.subs (t.needs.getD k 0) = false then [⟨6, i, f.tag, t.needs.getD k 0⟩] else []
def subsL (t : Rul) (f : Fld) (i : Int) (n : Nat) : List Prb := (List.range n).flatMap (subP t f i)
def needsL (t : Rul) (f : Fld) (i : Int) (n : Nat) : List Prb := (List.range n).flatMap (needP t f i)
def ruledL (t : Rul) (f : Fld) (i : Int) (again : Bool) : List Prb :=
  (if (!t.rep && again) = true then [⟨3, i, f.tag, 0⟩] else []) ++ (subsL t f i f.subs.length ++ (needsL t f i t.needs.length ++ (if f.auth ≠ 0 ∧ t.auth = 0 then [⟨7, i, f.tag, 0⟩] else [])))
def oneL (l : List Rul) (f : Fld) (i : Int) (again : Bool) : List Prb :=
  if (findR l f.tag).2 = false then [⟨2, i, f.tag, 0⟩] else ruledL (findR l f.tag).1 f i again
def fieldAt (l : List Rul) (fs : List Fld) (i : Nat) : List Prb := oneL l (fs.getD i ⟨[], [], [], 0⟩) (i : Int) (tagIn (fs.take i) (fs.getD i ⟨[], [], [], 0⟩).tag)
def fieldsP (l : List Rul) (fs : List Fld) (n : Nat) : List Prb := (List.range n).flatMap (fieldAt l fs)
def checkL (l : List Rul) (fs : List Fld) : List Prb := mustL l fs ++ fieldsP l fs fs.length
theorem range_flat {α : Type} (f : Nat → List α) (n : Nat) : (List.range (n + 1)).flatMap f = (List.range n).flatMap f ++ f n := by
  rw [List.range_succ, List.flatMap_append]
  simp
theorem subsL_succ (t : Rul) (f : Fld) (i : Int) (n : Nat) : subsL t f i (n + 1) = subsL t f i n ++ subP t f i n := range_flat _ _
theorem needsL_succ (t : Rul) (f : Fld) (i : Int) (n : Nat) : needsL t f i (n + 1) = needsL t f i n ++ needP t f i n := range_flat _ _
theorem fieldsP_succ (l : List Rul) (fs : List Fld) (n : Nat) : fieldsP l fs (n + 1) = fieldsP l fs n ++ fieldAt l fs n := range_flat _ _
theorem mustL_succ (l : List Rul) (fs : List Fld) (k : Nat) (h : k < l.length) : mustL (l.take (k + 1)) fs = mustL (l.take k) fs ++ mustP fs (l.getD k rul0) := by
  unfold mustL
  rw [List.take_succ_eq_append_getElem h, List.flatMap_append, List.getD_eq_getElem?_getD, List.getElem?_eq_getElem h]
  simp
theorem flat_le {α : Type} (f : Nat → List α) (m n : Nat) (h : ∀ i, (f i).length ≤ m) : ((List.range n).flatMap f).length ≤ n * m := by
  induction n with
  | zero => simp
  | succ n ih =>
    rw [range_flat, List.length_append, Nat.succ_mul]
    have := h n
    omega
theorem subP_le (t : Rul) (f : Fld) (i : Int) (k : Nat) : (subP t f i k).length ≤ 1 := by
  unfold subP
  split
  · exact Nat.le_refl 1
  · split
    · exact Nat.le_refl 1
    · exact Nat.zero_le _
theorem needP_le (t : Rul) (f : Fld) (i : Int) (k : Nat) : (needP t f i k).length ≤ 1 := by
  unfold needP
  split
  · exact Nat.le_refl 1
  · exact Nat.zero_le _
theorem subsL_le (t : Rul) (f : Fld) (i : Int) (n : Nat) : (subsL t f i n).length ≤ n := by
  have := flat_le (subP t f i) 1 n (subP_le t f i)
  unfold subsL
  omega
theorem needsL_le (t : Rul) (f : Fld) (i : Int) (n : Nat) : (needsL t f i n).length ≤ n := by
  have := flat_le (needP t f i) 1 n (needP_le t f i)
  unfold needsL
  omega
theorem ruledL_le (t : Rul) (f : Fld) (i : Int) (again : Bool) : (ruledL t f i again).length ≤ f.subs.length + t.needs.length + 2 := by
  unfold ruledL
  have h1 := subsL_le t f i f.subs.length
  have h2 := needsL_le t f i t.needs.length
  rw [List.length_append, List.length_append, List.length_append]
  have h3 : (if (!t.rep && again) = true then [(⟨3, i, f.tag, 0⟩ : Prb)] else []).length ≤ 1 := by
    split
    · exact Nat.le_refl 1
    · exact Nat.zero_le _
  have h4 : (if f.auth ≠ 0 ∧ t.auth = 0 then [(⟨7, i, f.tag, 0⟩ : Prb)] else []).length ≤ 1 := by
    split
    · exact Nat.le_refl 1
    · exact Nat.zero_le _
  omega
theorem oneL_le (l : List Rul) (f : Fld) (i : Int) (again : Bool) (hs : f.subs.length ≤ 1000) (hn : ∀ t ∈ l, t.needs.length ≤ 1000) : (oneL l f i again).length ≤ 2002 := by
  unfold oneL
  split
  · exact Nat.le_trans (Nat.le_refl 1) (by decide)
  · have h := ruledL_le (findR l f.tag).1 f i again
    have h2 : (findR l f.tag).1.needs.length ≤ 1000 := by
      rcases findR_cases l f.tag with ⟨_, h'⟩ | ⟨_, h', _⟩
      · rw [h']; exact Nat.zero_le _
      · exact hn _ h'
    omega
theorem mustL_le (fs : List Fld) : ∀ l : List Rul, (mustL l fs).length ≤ l.length
  | [] => Nat.le_refl 0
  | t :: s => by
    have := mustL_le fs s
    unfold mustL at this ⊢
    rw [List.flatMap_cons, List.length_append, List.length_cons]
    have h1 : (mustP fs t).length ≤ 1 := by
      unfold mustP
      split
      · exact Nat.le_refl 1
      · exact Nat.zero_le _
    omega
theorem tagIn_snoc (L : List Fld) (k : Nat) (h : k < L.length) (d : Fld) (g : List UInt8) : tagIn (L.take (k + 1)) g = (tagIn (L.take k) g || decide ((L.getD k d).tag = g)) := by
  rw [List.take_succ_eq_append_getElem h, List.getD_eq_getElem?_getD, List.getElem?_eq_getElem h]
  unfold tagIn
  rw [List.any_append]
  simp
theorem codeIn_snoc (L : List Sub) (k : Nat) (h : k < L.length) (c : UInt8) : codeIn (L.take (k + 1)) c = (codeIn (L.take k) c || decide ((L.getD k sub0).1 = c)) := by
  rw [List.take_succ_eq_append_getElem h, List.getD_eq_getElem?_getD, List.getElem?_eq_getElem h]
  unfold codeIn
  rw [List.any_append]
  simp
end Go.Proofs.YtjfdolmcecgdgaaDoor
