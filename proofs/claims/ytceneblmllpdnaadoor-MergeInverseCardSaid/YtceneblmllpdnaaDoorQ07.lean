/- Merged: R07H, Plain08, Plain16. -/
import Derived.Test.YtceneblmllpdnaaDoorQ03
import Derived.Test.YtceneblmllpdnaaDoorQ06
namespace Go.Proofs.YtceneblmllpdnaaDoor

section
open Go.RowKit Go.PlainAid
/-- The first k texts with these bytes between them. -/
def joinK (c : List UInt8) (L : List (List UInt8)) : Nat → List UInt8
  | 0 => []
  | k + 1 => if k = 0 then L.getD 0 [] else joinK c L k ++ c ++ L.getD k []
theorem joinK_le (c : List UInt8) (L : List (List UInt8)) (hc : c.length ≤ 1000) (hL : ∀ i, (L.getD i []).length ≤ 1000000) : ∀ k, (joinK c L k).length ≤ k * 1001000
  | 0 => Nat.le_refl _
  | k + 1 => by
    have h := joinK_le c L hc hL k
    have h0 := hL 0
    have hk := hL k
    rw [joinK]
    by_cases h1 : k = 0
    · rw [if_pos h1]; omega
    · rw [if_neg h1, List.length_append, List.length_append]; omega
def plainL (subs : List Sub) (codes : List UInt8) : List UInt8 := joinK [32] (allL subs codes) (allL subs codes).length
end

section
def fd0 : Fld := ⟨[], [], [], 0⟩
structure Rec where
  id : Int
  ver : Int
  kind : Int
  lang : List UInt8
  fields : List Fld
def rec0 : Rec := ⟨0, 0, 0, [], []⟩
theorem sameB_iff (f g : Fld) : sameB f g = true ↔ f = g := by
  cases f; cases g
  simp only [sameB, Bool.and_eq_true, decide_eq_true_eq, Fld.mk.injEq]
  constructor
  · rintro ⟨⟨⟨h1, h2⟩, h3⟩, h4⟩; exact ⟨h1, h2, h4, h3⟩
  · rintro ⟨h1, h2, h4, h3⟩; exact ⟨⟨⟨h1, h2⟩, h3⟩, h4⟩
theorem sameB_ne {f g : Fld} (h : sameB f g = false) : f ≠ g := fun e => by
  rw [(sameB_iff f g).2 e] at h
  cases h
def sameFB : List Fld → List Fld → Bool
  | [], [] => true
  | a :: s, b :: t => sameB a b && sameFB s t
  | _, _ => false
theorem sameFB_iff : ∀ A B : List Fld, sameFB A B = true ↔ A = B
  | [], [] => by simp [sameFB]
  | a :: s, [] => by simp [sameFB]
  | [], b :: t => by simp [sameFB]
  | a :: s, b :: t => by
    rw [sameFB, Bool.and_eq_true, sameB_iff, sameFB_iff s t, List.cons.injEq]
theorem sameFB_ne {A B : List Fld} (h : A ≠ B) : sameFB A B = false := by
  cases e : sameFB A B
  · rfl
  · exact absurd ((sameFB_iff A B).1 e) h
theorem fields_ext (A B : List Fld) (hl : A.length = B.length) (h : ∀ i, i < A.length → A.getD i fd0 = B.getD i fd0) : A = B := by
  refine List.ext_getElem hl fun i h1 h2 => ?_
  have := h i h1
  rwa [List.getD_eq_getElem?_getD, List.getD_eq_getElem?_getD, List.getElem?_eq_getElem h1, List.getElem?_eq_getElem h2] at this
def sameRB (a b : Rec) : Bool := decide (a.id = b.id) && decide (a.ver = b.ver) && decide (a.kind = b.kind) && decide (a.lang = b.lang) && sameFB a.fields b.fields
theorem sameRB_iff (a b : Rec) : sameRB a b = true ↔ a = b := by
  cases a; cases b
  simp only [sameRB, Bool.and_eq_true, decide_eq_true_eq, Rec.mk.injEq, sameFB_iff]
  constructor
  · rintro ⟨⟨⟨⟨h1, h2⟩, h3⟩, h4⟩, h5⟩; exact ⟨h1, h2, h3, h4, h5⟩
  · rintro ⟨h1, h2, h3, h4, h5⟩; exact ⟨⟨⟨⟨h1, h2⟩, h3⟩, h4⟩, h5⟩

/-! Right. -/
def firstFE : List Fld → Int
  | [] => 0
  | f :: t => if rightI f ≠ 0 then rightI f else firstFE t
theorem firstFE_hit : ∀ (L : List Fld) (k : Nat), k < L.length → (∀ j, j < k → rightI (L.getD j fd0) = 0) → rightI (L.getD k fd0) ≠ 0 → firstFE L = rightI (L.getD k fd0)
  | [], _, hk, _, _ => by cases hk
  | s :: t, 0, _, _, he => by
    have he : rightI s ≠ 0 := he
    rw [firstFE, if_pos he]
    rfl
  | s :: t, k + 1, hk, h, he => by
    have h0 : rightI s = 0 := h 0 (Nat.succ_pos k)
    rw [firstFE, if_neg (fun h => h h0)]
    exact firstFE_hit t k (by simpa using hk) (fun j hj => h (j + 1) (by omega)) he
theorem firstFE_miss : ∀ (L : List Fld), (∀ j, j < L.length → rightI (L.getD j fd0) = 0) → firstFE L = 0
  | [], _ => rfl
  | s :: t, h => by
    have h0 : rightI s = 0 := h 0 (by simp)
    rw [firstFE, if_neg (fun h => h h0)]
    exact firstFE_miss t (fun j hj => h (j + 1) (by simpa using hj))
theorem firstFE_zero : ∀ (L : List Fld), firstFE L = 0 ↔ ∀ f ∈ L, rightI f = 0
  | [] => by simp [firstFE]
  | f :: t => by
    rw [firstFE]
    by_cases h : rightI f = 0
    · rw [if_neg (fun g => g h), firstFE_zero t]
      simp [h]
    · rw [if_pos h]
      simp [h]
def lowB (x : UInt8) : Bool := decide (97 ≤ x.toNat) && decide (x.toNat ≤ 122)
def langB (l : List UInt8) : Bool := decide (l.length = 3) && lowB (l.getD 0 0) && lowB (l.getD 1 0) && lowB (l.getD 2 0)
def rightRI (r : Rec) : Int :=
  if r.id < 0 ∨ 9999 < r.id then 2 else if r.ver < 1 ∨ 3 < r.ver then 20 else if r.kind < 1 ∨ 4 < r.kind then 1 else if langB r.lang = false then 3
  else if 64 < r.fields.length then 4 else firstFE r.fields
theorem all_true {α : Type} (d : α) (p : α → Bool) : ∀ L : List α, (∀ j, j < L.length → p (L.getD j d) = true) → L.all p = true
  | [], _ => rfl
  | a :: t, h => by
    rw [List.all_cons, all_true d p t (fun j hj => h (j + 1) (by simpa using hj)), Bool.and_true]
    exact h 0 (by simp)
theorem all_false {α : Type} (d : α) (p : α → Bool) : ∀ (L : List α) (k : Nat), k < L.length → p (L.getD k d) = false → L.all p = false
  | [], _, hk, _ => by cases hk
  | a :: t, 0, _, h => by
    have h : p a = false := h
    rw [List.all_cons, h, Bool.false_and]
  | a :: t, k + 1, hk, h => by
    rw [List.all_cons, all_false d p t k (by simpa using hk) h, Bool.and_false]
theorem all_at {α : Type} (d : α) (p : α → Bool) (L : List α) (h : L.all p = true) (k : Nat) (hk : k < L.length) : p (L.getD k d) = true := by
  cases e : p (L.getD k d)
  · rw [all_false d p L k hk e] at h
    cases h
  · rfl
def smallFB (f : Fld) : Bool := decide (f.subs.length ≤ 20) && f.subs.all fun s => decide (s.2.length ≤ 300)
def smallRB (r : Rec) : Bool := decide (r.fields.length ≤ 70) && r.fields.all smallFB

/-! Fields, Insert, Remove. -/
theorem prefix_take (p t : List UInt8) : decide (t.take p.length = p) = p.isPrefixOf t := by
  rw [Bool.eq_iff_iff, decide_eq_true_iff, List.isPrefixOf_iff_prefix, List.prefix_iff_eq_take]
  exact ⟨fun h => h.symm, fun h => h.symm⟩
theorem prefix_short (p t : List UInt8) (h : t.length < p.length) : p.isPrefixOf t = false := by
  cases e : p.isPrefixOf t
  · rfl
  · have := (List.isPrefixOf_iff_prefix.1 e).length_le
    omega
def fieldsL (L : List Fld) (p : List UInt8) : List Fld := L.filter fun f => p.isPrefixOf f.tag
theorem fieldsL_snoc (L : List Fld) (p : List UInt8) (k : Nat) (h : k < L.length) : fieldsL (L.take (k + 1)) p = fieldsL (L.take k) p ++ (if p.isPrefixOf (L.getD k fd0).tag = true then [L.getD k fd0] else []) := by
  rw [List.take_succ_eq_append_getElem h, List.getD_eq_getElem?_getD, List.getElem?_eq_getElem h]
  unfold fieldsL
  rw [List.filter_append]
  congr 1
  show _ = if p.isPrefixOf L[k].tag = true then [L[k]] else []
  by_cases hi : p.isPrefixOf L[k].tag = true
  · rw [if_pos hi]; simp [hi]
  · rw [if_neg hi]; simp [hi]
theorem fieldsL_length (L : List Fld) (p : List UInt8) : (fieldsL L p).length ≤ L.length := List.length_filter_le _ _
def insL (L : List Fld) (i : Nat) (f : Fld) : List Fld := L.take i ++ f :: L.drop i
def remL (L : List Fld) (i : Nat) : List Fld := L.take i ++ L.drop (i + 1)
def insR (r : Rec) (i : Int) (f : Fld) : Rec × Int :=
  if i < 0 ∨ (r.fields.length : Int) < i then (rec0, 2) else if rightI f ≠ 0 then (rec0, rightI f) else if 64 ≤ r.fields.length then (rec0, 13)
  else ({ r with fields := insL r.fields i.toNat f }, 0)
def remR (r : Rec) (i : Int) : Rec × Int :=
  if i < 0 ∨ (r.fields.length : Int) ≤ i then (rec0, 2) else ({ r with fields := remL r.fields i.toNat }, 0)
theorem insL_len (L : List Fld) (i : Nat) (f : Fld) (h : i ≤ L.length) : (insL L i f).length = L.length + 1 := by
  simp [insL, List.length_take, List.length_drop]; omega
theorem remL_len (L : List Fld) (i : Nat) (h : i < L.length) : (remL L i).length + 1 = L.length := by
  simp [remL, List.length_take, List.length_drop]; omega
theorem rem_ins (L : List Fld) (i : Nat) (f : Fld) (h : i ≤ L.length) : remL (insL L i f) i = L := by
  have h1 : (L.take i).length = i := by rw [List.length_take]; omega
  unfold remL insL
  have e : (L.take i ++ f :: L.drop i).drop (i + 1) = L.drop i := by
    rw [List.drop_append, h1, List.drop_of_length_le (by omega), show i + 1 - i = 1 by omega]
    rfl
  rw [e, List.take_append_of_le_length (by omega), List.take_of_length_le (by omega), List.take_append_drop]
theorem ins_rem (L : List Fld) (i : Nat) (h : i < L.length) : insL (remL L i) i (L.getD i fd0) = L := by
  have h1 : (L.take i).length = i := by rw [List.length_take]; omega
  unfold remL insL
  rw [List.take_append_of_le_length (by omega), List.take_of_length_le (by omega)]
  rw [show (L.take i ++ L.drop (i + 1)).drop i = L.drop (i + 1) by rw [List.drop_append_of_le_length (by omega), List.drop_of_length_le (by omega)]; rfl]
  rw [show L.getD i fd0 = L[i] by rw [List.getD_eq_getElem?_getD, List.getElem?_eq_getElem h]; rfl, ← List.drop_eq_getElem_cons h, List.take_append_drop]
theorem ins_at (L : List Fld) (i : Nat) (f : Fld) (h : i ≤ L.length) : (insL L i f).getD i fd0 = f := by
  have h1 : (L.take i).length = i := by rw [List.length_take]; omega
  unfold insL
  rw [List.getD_eq_getElem?_getD, List.getElem?_append_right (by omega), h1, Nat.sub_self]
  rfl
theorem mem_ins (L : List Fld) (i : Nat) (f g : Fld) (h : g ∈ insL L i f) : g = f ∨ g ∈ L := by
  unfold insL at h
  rcases List.mem_append.1 h with h | h
  · exact .inr (List.mem_of_mem_take h)
  · rcases List.mem_cons.1 h with h | h
    · exact .inl h
    · exact .inr (List.mem_of_mem_drop h)
theorem mem_rem (L : List Fld) (i : Nat) (g : Fld) (h : g ∈ remL L i) : g ∈ L := by
  unfold remL at h
  rcases List.mem_append.1 h with h | h
  · exact List.mem_of_mem_take h
  · exact List.mem_of_mem_drop h
end

section
open Go.RowKit
def hasF (L : List Fld) (f : Fld) : Bool := L.any fun x => sameB x f
theorem hasF_iff (L : List Fld) (f : Fld) : hasF L f = true ↔ f ∈ L := by
  unfold hasF
  simp only [List.any_eq_true, sameB_iff]
  exact ⟨fun ⟨x, h, e⟩ => e ▸ h, fun h => ⟨f, h, rfl⟩⟩
def tagdF (L : List Fld) (t : List UInt8) : Bool := L.any fun x => decide (x.tag = t)
theorem tagdF_iff (L : List Fld) (t : List UInt8) : tagdF L t = true ↔ ∃ x ∈ L, x.tag = t := by
  unfold tagdF
  simp only [List.any_eq_true, decide_eq_true_eq]
abbrev Kp := List UInt8 × Int
def howK : List Kp → List UInt8 → Int
  | [], _ => 1
  | k :: l, t => if k.1 = t then k.2 else howK l t
def takeB (I R : List Fld) (l : List Kp) (f : Fld) : Bool := (decide (howK l f.tag = 1) && !hasF R f) || (decide (howK l f.tag = 2) && !tagdF I f.tag)
def goM (I : List Fld) (l : List Kp) : List Fld → Nat → List Fld × List Nat → List Fld × List Nat
  | [], _, st => st
  | f :: F, i, st => goM I l F (i + 1) (if takeB I st.1 l f = true then (st.1 ++ [f], st.2 ++ [i]) else st)
def mergeF (I F : List Fld) (l : List Kp) : List Fld × List Nat := goM I l F 0 (I, [])
/-- One field more. -/
theorem goM_snoc (I : List Fld) (l : List Kp) : ∀ (F : List Fld) (i : Nat) (st : List Fld × List Nat) (f : Fld), goM I l (F ++ [f]) i st =
    (if takeB I (goM I l F i st).1 l f = true then ((goM I l F i st).1 ++ [f], (goM I l F i st).2 ++ [i + F.length]) else goM I l F i st)
  | [], i, st, f => rfl
  | x :: F, i, st, f => by
    rw [List.cons_append, goM, goM_snoc I l F (i + 1), goM, List.length_cons, show i + 1 + F.length = i + (F.length + 1) by omega]
theorem merge_step (I F : List Fld) (l : List Kp) (fd : Fld) (i : Nat) (h : i < F.length) : mergeF I (F.take (i + 1)) l =
    (if takeB I (mergeF I (F.take i) l).1 l (F.getD i fd) = true then ((mergeF I (F.take i) l).1 ++ [F.getD i fd], (mergeF I (F.take i) l).2 ++ [i]) else mergeF I (F.take i) l) := by
  have e : F.take (i + 1) = F.take i ++ [F.getD i fd] := by
    rw [List.take_succ_eq_append_getElem h, List.getD_eq_getElem?_getD, List.getElem?_eq_getElem h]
    rfl
  unfold mergeF
  rw [e, goM_snoc, List.length_take, Nat.min_eq_left (by omega), Nat.zero_add]
/-- The merged fields are into's and the taken ones, whose indices ascend. -/
theorem goM_ok (I : List Fld) (l : List Kp) (fd : Fld) : ∀ (F P : List Fld) (st : List Fld × List Nat), st.1 = I ++ st.2.map (fun k => (P ++ F).getD k fd) → (∀ k ∈ st.2, k < P.length) → st.2.Pairwise (· < ·) →
    (goM I l F P.length st).1 = I ++ (goM I l F P.length st).2.map (fun k => (P ++ F).getD k fd) ∧ (∀ k ∈ (goM I l F P.length st).2, k < (P ++ F).length) ∧ (goM I l F P.length st).2.Pairwise (· < ·)
  | [], P, st, h1, h2, h3 => by
    simp only [goM, List.append_nil] at *
    exact ⟨h1, h2, h3⟩
  | f :: F, P, st, h1, h2, h3 => by
    have e : P ++ f :: F = (P ++ [f]) ++ F := by simp
    have el : P.length + 1 = (P ++ [f]).length := by simp
    rw [goM, el, e]
    rw [e] at h1
    refine goM_ok I l fd F (P ++ [f]) _ ?_ ?_ ?_
    · by_cases ht : takeB I st.1 l f = true
      · rw [if_pos ht]
        have hg : ((P ++ [f]) ++ F).getD P.length fd = f := by
          rw [List.getD_eq_getElem?_getD, List.append_assoc, List.getElem?_append_right (Nat.le_refl _), Nat.sub_self]
          rfl
        simp only [List.map_append, List.map_cons, List.map_nil, hg]
        rw [← List.append_assoc, ← h1]
      · rw [if_neg ht]; exact h1
    · by_cases ht : takeB I st.1 l f = true
      · rw [if_pos ht]
        intro k hk
        rcases List.mem_append.1 hk with hk | hk
        · have := h2 k hk; simp; omega
        · have : k = P.length := by simpa using hk
          subst this; simp
      · rw [if_neg ht]
        intro k hk
        have := h2 k hk
        simp; omega
    · by_cases ht : takeB I st.1 l f = true
      · rw [if_pos ht]
        refine List.pairwise_append.2 ⟨h3, List.pairwise_singleton _ _, fun a ha b hb => ?_⟩
        obtain rfl : b = P.length := by simpa using hb
        exact h2 a ha
      · rw [if_neg ht]; exact h3
theorem merge_ok (I F : List Fld) (l : List Kp) (fd : Fld) : (mergeF I F l).1 = I ++ (mergeF I F l).2.map (fun k => F.getD k fd) ∧ (∀ k ∈ (mergeF I F l).2, k < F.length) ∧ (mergeF I F l).2.Pairwise (· < ·) := by
  have := goM_ok I l fd F [] (I, []) (by simp) (fun k hk => by cases hk) List.Pairwise.nil
  simpa [mergeF] using this

/-! Splitting. -/
/-- A list without the last element that is equal to a field, and whether there is one. -/
def woF : List Fld → Fld → List Fld × Bool
  | [], _ => ([], false)
  | x :: L, f => if (woF L f).2 = true then (x :: (woF L f).1, true) else if sameB x f = true then (L, true) else (x :: L, false)
theorem woF_none : ∀ (L : List Fld) (f : Fld), f ∉ L → woF L f = (L, false)
  | [], _, _ => rfl
  | x :: L, f, h => by
    have h1 := woF_none L f fun g => h (List.mem_cons_of_mem _ g)
    have h2 : ¬ sameB x f = true := fun g => h (by rw [(sameB_iff x f).1 g]; exact List.mem_cons_self)
    rw [woF, h1, if_neg (by simp), if_neg h2]
theorem woF_last : ∀ (A B : List Fld) (f : Fld), f ∉ B → woF (A ++ f :: B) f = (A ++ B, true)
  | [], B, f, h => by
    rw [List.nil_append, woF, woF_none B f h, if_neg (by simp), if_pos ((sameB_iff f f).2 rfl)]
    rfl
  | x :: A, B, f, h => by
    rw [List.cons_append, woF, woF_last A B f h, if_pos rfl]
    rfl
/-- What is left when the fields of the indices (the last one first) are removed, and whether each was found. -/
def partF (g : Nat → Fld) : List Nat → List Fld × Bool → List Fld × Bool
  | [], s => s
  | k :: t, s => partF g t ((woF s.1 (g k)).1, s.2 && (woF s.1 (g k)).2)
theorem part_back (g : Nat → Fld) (I B : List Fld) : ∀ (T : List Nat) (a : Bool), (∀ k ∈ T, g k ∉ B) → partF g T (I ++ T.reverse.map g ++ B, a) = (I ++ B, a)
  | [], a, _ => by simp [partF]
  | k :: t, a, h => by
    have e : I ++ (k :: t).reverse.map g ++ B = (I ++ t.reverse.map g) ++ g k :: B := by simp
    rw [partF, e, woF_last _ _ _ (h k List.mem_cons_self)]
    simp only [Bool.and_true]
    exact part_back g I B t a fun j hj => h j (List.mem_cons_of_mem _ hj)
/-- The stage's theorem in plain words: what a merge took is found again behind a field that is equal to none of it, and is removed. -/
theorem merge_back (I F : List Fld) (l : List Kp) (fd : Fld) (B : List Fld) (h : ∀ k ∈ (mergeF I F l).2, F.getD k fd ∉ B) :
    partF (fun k => F.getD k fd) (mergeF I F l).2.reverse ((mergeF I F l).1 ++ B, true) = (I ++ B, true) := by
  have h1 := (merge_ok I F l fd).1
  generalize (mergeF I F l).2 = T at *
  rw [h1]
  have := part_back (fun k => F.getD k fd) I B T.reverse true (fun k hk => h k (by simpa using hk))
  rwa [List.reverse_reverse] at this

/-! A second merge. -/
theorem goM_mono (I : List Fld) (l : List Kp) : ∀ (F : List Fld) (i : Nat) (st : List Fld × List Nat) (x : Fld), x ∈ st.1 → x ∈ (goM I l F i st).1
  | [], _, _, _, h => h
  | f :: F, i, st, x, h => by
    rw [goM]
    refine goM_mono I l F (i + 1) _ x ?_
    split
    · exact List.mem_append_left _ h
    · exact h
theorem goM_has (I : List Fld) (l : List Kp) : ∀ (F : List Fld) (i : Nat) (st : List Fld × List Nat), (∀ x ∈ I, x ∈ st.1) → ∀ f ∈ F,
    (howK l f.tag = 1 → f ∈ (goM I l F i st).1) ∧ (howK l f.tag = 2 → tagdF (goM I l F i st).1 f.tag = true)
  | [], _, _, _, f, hf => by cases hf
  | y :: F, i, st, hI, f, hf => by
    rw [goM]
    have hI2 : ∀ x ∈ I, x ∈ (if takeB I st.1 l y = true then (st.1 ++ [y], st.2 ++ [i]) else st).1 := fun x hx => by
      split
      · exact List.mem_append_left _ (hI x hx)
      · exact hI x hx
    rcases List.mem_cons.1 hf with rfl | hf
    · by_cases ht : takeB I st.1 l f = true
      · rw [if_pos ht]
        have hm : f ∈ (goM I l F (i + 1) (st.1 ++ [f], st.2 ++ [i])).1 := goM_mono I l F (i + 1) _ f (by simp)
        exact ⟨fun _ => hm, fun _ => (tagdF_iff _ _).2 ⟨f, hm, rfl⟩⟩
      · rw [if_neg ht]
        unfold takeB at ht
        simp only [Bool.or_eq_true, Bool.and_eq_true, decide_eq_true_eq, Bool.not_eq_true', not_or, not_and, Bool.not_eq_false] at ht
        refine ⟨fun h => goM_mono I l F (i + 1) st f ((hasF_iff _ _).1 (ht.1 h)), fun h => ?_⟩
        obtain ⟨x, hx, e⟩ := (tagdF_iff _ _).1 (ht.2 h)
        exact (tagdF_iff _ _).2 ⟨x, goM_mono I l F (i + 1) st x (hI x hx), e⟩
    · exact goM_has I l F (i + 1) _ hI2 f hf
theorem goM_none (I : List Fld) (l : List Kp) : ∀ (F : List Fld) (i : Nat) (st : List Fld × List Nat), (∀ f ∈ F, takeB I st.1 l f = false) → goM I l F i st = st
  | [], _, _, _ => rfl
  | f :: F, i, st, h => by
    have h1 : ¬ takeB I st.1 l f = true := by rw [h f List.mem_cons_self]; simp
    rw [goM, if_neg h1]
    exact goM_none I l F (i + 1) st fun x hx => h x (List.mem_cons_of_mem _ hx)
theorem merge_has (I F : List Fld) (l : List Kp) (f : Fld) (hf : f ∈ F) : (howK l f.tag = 1 → f ∈ (mergeF I F l).1) ∧ (howK l f.tag = 2 → tagdF (mergeF I F l).1 f.tag = true) :=
  goM_has I l F 0 (I, []) (fun _ h => h) f hf
/-- The same record again: nothing is taken. -/
theorem merge_again (I F : List Fld) (l : List Kp) : mergeF (mergeF I F l).1 F l = ((mergeF I F l).1, []) := by
  refine goM_none _ l F 0 _ fun f hf => ?_
  obtain ⟨h1, h2⟩ := merge_has I F l f hf
  unfold takeB
  by_cases e1 : howK l f.tag = 1
  · have := (hasF_iff _ _).2 (h1 e1)
    simp [this, e1]
  · by_cases e2 : howK l f.tag = 2
    · simp [h2 e2, e1]
    · simp [e1, e2]
end

end Go.Proofs.YtceneblmllpdnaaDoor
