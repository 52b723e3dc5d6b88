/- Merged: Plain08, Plain15, Plain15B, Plain15C. -/
import Derived.Test.YtfjfpefpdlecbaaGreatDoorQ06
import Derived.Test.YtfjfpefpdlecbaaGreatDoorQ01
import Derived.Test.YtfjfpefpdlecbaaGreatDoorQ02
namespace Go.Proofs.YtfjfpefpdlecbaaGreatDoor

section
def fd0 : Fld := ⟨[], [], [], 0⟩
structure Rec where
  id : Int
  ver : Int
  kind : Int
  lang : List UInt8
  fields : List Fld
def rec0 : Rec := ⟨0, 0, 0, [], []⟩
theorem sameB_iff (f g : Fld) : sameB f g = true ↔ f = g := by
  cases f; cases g
  simp only [sameB, Bool.and_eq_true, decide_eq_true_eq, Fld.mk.injEq]
  constructor
  · rintro ⟨⟨⟨h1, h2⟩, h3⟩, h4⟩; exact ⟨h1, h2, h4, h3⟩
  · rintro ⟨h1, h2, h4, h3⟩; exact ⟨⟨⟨h1, h2⟩, h3⟩, h4⟩
theorem sameB_ne {f g : Fld} (h : sameB f g = false) : f ≠ g := fun e => by
  rw [(sameB_iff f g).2 e] at h
  cases h
def sameFB : List Fld → List Fld → Bool
  | [], [] => true
  | a :: s, b :: t => sameB a b && sameFB s t
  | _, _ => false
theorem sameFB_iff : ∀ A B : List Fld, sameFB A B = true ↔ A = B
  | [], [] => by simp [sameFB]
  | a :: s, [] => by simp [sameFB]
  | [], b :: t => by simp [sameFB]
  | a :: s, b :: t => by
    rw [sameFB, Bool.and_eq_true, sameB_iff, sameFB_iff s t, List.cons.injEq]
theorem sameFB_ne {A B : List Fld} (h : A ≠ B) : sameFB A B = false := by
  cases e : sameFB A B
  · rfl
  · exact absurd ((sameFB_iff A B).1 e) h
theorem fields_ext (A B : List Fld) (hl : A.length = B.length) (h : ∀ i, i < A.length → A.getD i fd0 = B.getD i fd0) : A = B := by
  refine List.ext_getElem hl fun i h1 h2 => ?_
  have := h i h1
  rwa [List.getD_eq_getElem?_getD, List.getD_eq_getElem?_getD, List.getElem?_eq_getElem h1, List.getElem?_eq_getElem h2] at this
def sameRB (a b : Rec) : Bool := decide (a.id = b.id) && decide (a.ver = b.ver) && decide (a.kind = b.kind) && decide (a.lang = b.lang) && sameFB a.fields b.fields
theorem sameRB_iff (a b : Rec) : sameRB a b = true ↔ a = b := by
  cases a; cases b
  simp only [sameRB, Bool.and_eq_true, decide_eq_true_eq, Rec.mk.injEq, sameFB_iff]
  constructor
  · rintro ⟨⟨⟨⟨h1, h2⟩, h3⟩, h4⟩, h5⟩; exact ⟨h1, h2, h3, h4, h5⟩
  · rintro ⟨h1, h2, h3, h4, h5⟩; exact ⟨⟨⟨⟨h1, h2⟩, h3⟩, h4⟩, h5⟩

/-! Right. -/
def firstFE : List Fld → Int
  | [] => 0
  | f :: t => if rightI f ≠ 0 then rightI f else firstFE t
theorem firstFE_hit : ∀ (L : List Fld) (k : Nat), k < L.length → (∀ j, j < k → rightI (L.getD j fd0) = 0) → rightI (L.getD k fd0) ≠ 0 → firstFE L = rightI (L.getD k fd0)
  | [], _, hk, _, _ => by cases hk
  | s :: t, 0, _, _, he => by
    have he : rightI s ≠ 0 := he
    rw [firstFE, if_pos he]
    rfl
  | s :: t, k + 1, hk, h, he => by
    have h0 : rightI s = 0 := h 0 (Nat.succ_pos k)
    rw [firstFE, if_neg (fun h => h h0)]
    exact firstFE_hit t k (by simpa using hk) (fun j hj => h (j + 1) (by omega)) he
theorem firstFE_miss : ∀ (L : List Fld), (∀ j, j < L.length → rightI (L.getD j fd0) = 0) → firstFE L = 0
  | [], _ => rfl
  | s :: t, h => by
    have h0 : rightI s = 0 := h 0 (by simp)
    rw [firstFE, if_neg (fun h => h h0)]
    exact firstFE_miss t (fun j hj => h (j + 1) (by simpa using hj))
theorem firstFE_zero : ∀ (L : List Fld), firstFE L = 0 ↔ ∀ f ∈ L, rightI f = 0
  | [] => by simp [firstFE]
  | f :: t => by
    rw [firstFE]
    by_cases h : rightI f = 0
    · rw [if_neg (fun g => g h), firstFE_zero t]
      simp [h]
    · rw [if_pos h]
      simp [h]
def lowB (x : UInt8) : Bool := decide (97 ≤ x.toNat) && decide (x.toNat ≤ 122)
def langB (l : List UInt8) : Bool := decide (l.length = 3) && lowB (l.getD 0 0) && lowB (l.getD 1 0) && lowB (l.getD 2 0)
def rightRI (r : Rec) : Int :=
  if r.id < 0 ∨ 9999 < r.id then 2 else if r.ver < 1 ∨ 3 < r.ver then 20 else if r.kind < 1 ∨ 4 < r.kind then 1 else if langB r.lang = false then 3
  else if 64 < r.fields.length then 4 else firstFE r.fields
theorem all_true {α : Type} (d : α) (p : α → Bool) : ∀ L : List α, (∀ j, j < L.length → p (L.getD j d) = true) → L.all p = true
  | [], _ => rfl
  | a :: t, h => by
    rw [List.all_cons, all_true d p t (fun j hj => h (j + 1) (by simpa using hj)), Bool.and_true]
    exact h 0 (by simp)
theorem all_false {α : Type} (d : α) (p : α → Bool) : ∀ (L : List α) (k : Nat), k < L.length → p (L.getD k d) = false → L.all p = false
  | [], _, hk, _ => by cases hk
  | a :: t, 0, _, h => by
    have h : p a = false := h
    rw [List.all_cons, h, Bool.false_and]
  | a :: t, k + 1, hk, h => by
    rw [List.all_cons, all_false d p t k (by simpa using hk) h, Bool.and_false]
theorem all_at {α : Type} (d : α) (p : α → Bool) (L : List α) (h : L.all p = true) (k : Nat) (hk : k < L.length) : p (L.getD k d) = true := by
  cases e : p (L.getD k d)
  · rw [all_false d p L k hk e] at h
    cases h
  · rfl
def smallFB (f : Fld) : Bool := decide (f.subs.length ≤ 20) && f.subs.all fun s => decide (s.2.length ≤ 300)
def smallRB (r : Rec) : Bool := decide (r.fields.length ≤ 70) && r.fields.all smallFB

/-! Fields, Insert, Remove. -/
theorem prefix_take (p t : List UInt8) : decide (t.take p.length = p) = p.isPrefixOf t := by
  rw [Bool.eq_iff_iff, decide_eq_true_iff, List.isPrefixOf_iff_prefix, List.prefix_iff_eq_take]
  exact ⟨fun h => h.symm, fun h => h.symm⟩
theorem prefix_short (p t : List UInt8) (h : t.length < p.length) : p.isPrefixOf t = false := by
  cases e : p.isPrefixOf t
  · rfl
  · have := (List.isPrefixOf_iff_prefix.1 e).length_le
    omega
def fieldsL (L : List Fld) (p : List UInt8) : List Fld := L.filter fun f => p.isPrefixOf f.tag
theorem fieldsL_snoc (L : List Fld) (p : List UInt8) (k : Nat) (h : k < L.length) : fieldsL (L.take (k + 1)) p = fieldsL (L.take k) p ++ (if p.isPrefixOf (L.getD k fd0).tag = true then [L.getD k fd0] else []) := by
  rw [List.take_succ_eq_append_getElem h, List.getD_eq_getElem?_getD, List.getElem?_eq_getElem h]
  unfold fieldsL
  rw [List.filter_append]
  congr 1
  show _ = if p.isPrefixOf L[k].tag = true then [L[k]] else []
  by_cases hi : p.isPrefixOf L[k].tag = true
  · rw [if_pos hi]; simp [hi]
  · rw [if_neg hi]; simp [hi]
theorem fieldsL_length (L : List Fld) (p : List UInt8) : (fieldsL L p).length ≤ L.length := List.length_filter_le _ _
def insL (L : List Fld) (i : Nat) (f : Fld) : List Fld := L.take i ++ f :: L.drop i
def remL (L : List Fld) (i : Nat) : List Fld := L.take i ++ L.drop (i + 1)
def insR (r : Rec) (i : Int) (f : Fld) : Rec × Int :=
  if i < 0 ∨ (r.fields.length : Int) < i then (rec0, 2) else if rightI f ≠ 0 then (rec0, rightI f) else if 64 ≤ r.fields.length then (rec0, 13)
  else ({ r with fields := insL r.fields i.toNat f }, 0)
def remR (r : Rec) (i : Int) : Rec × Int :=
  if i < 0 ∨ (r.fields.length : Int) ≤ i then (rec0, 2) else ({ r with fields := remL r.fields i.toNat }, 0)
theorem insL_len (L : List Fld) (i : Nat) (f : Fld) (h : i ≤ L.length) : (insL L i f).length = L.length + 1 := by
  simp [insL, List.length_take, List.length_drop]; omega
theorem remL_len (L : List Fld) (i : Nat) (h : i < L.length) : (remL L i).length + 1 = L.length := by
  simp [remL, List.length_take, List.length_drop]; omega
theorem rem_ins (L : List Fld) (i : Nat) (f : Fld) (h : i ≤ L.length) : remL (insL L i f) i = L := by
  have h1 : (L.take i).length = i := by rw [List.length_take]; omega
  unfold remL insL
  have e : (L.take i ++ f :: L.drop i).drop (i + 1) = L.drop i := by
    rw [List.drop_append, h1, List.drop_of_length_le (by omega), show i + 1 - i = 1 by omega]
    rfl
  rw [e, List.take_append_of_le_length (by omega), List.take_of_length_le (by omega), List.take_append_drop]
theorem ins_rem (L : List Fld) (i : Nat) (h : i < L.length) : insL (remL L i) i (L.getD i fd0) = L := by
  have h1 : (L.take i).length = i := by rw [List.length_take]; omega
  unfold remL insL
  rw [List.take_append_of_le_length (by omega), List.take_of_length_le (by omega)]
  rw [show (L.take i ++ L.drop (i + 1)).drop i = L.drop (i + 1) by rw [List.drop_append_of_le_length (by omega), List.drop_of_length_le (by omega)]; rfl]
  rw [show L.getD i fd0 = L[i] by rw [List.getD_eq_getElem?_getD, List.getElem?_eq_getElem h]; rfl, ← List.drop_eq_getElem_cons h, List.take_append_drop]
theorem ins_at (L : List Fld) (i : Nat) (f : Fld) (h : i ≤ L.length) : (insL L i f).getD i fd0 = f := by
  have h1 : (L.take i).length = i := by rw [List.length_take]; omega
  unfold insL
  rw [List.getD_eq_getElem?_getD, List.getElem?_append_right (by omega), h1, Nat.sub_self]
  rfl
theorem mem_ins (L : List Fld) (i : Nat) (f g : Fld) (h : g ∈ insL L i f) : g = f ∨ g ∈ L := by
  unfold insL at h
  rcases List.mem_append.1 h with h | h
  · exact .inr (List.mem_of_mem_take h)
  · rcases List.mem_cons.1 h with h | h
    · exact .inl h
    · exact .inr (List.mem_of_mem_drop h)
theorem mem_rem (L : List Fld) (i : Nat) (g : Fld) (h : g ∈ remL L i) : g ∈ L := by
  unfold remL at h
  rcases List.mem_append.1 h with h | h
  · exact List.mem_of_mem_take h
  · exact List.mem_of_mem_drop h
end

section
open Go.RowKit
structure MKey where
  tag : List UInt8
  code : UInt8
  norm : Int
  weight : Int
def key0 : MKey := ⟨[], 0, 0, 0⟩
structure MRule where
  keys : List MKey
  need : Int

/-! Texts in order. -/
def ltT (a b : List UInt8) : Bool := Op.bytesLess a b
theorem ltT_irr : ∀ a : List UInt8, ltT a a = false
  | [] => rfl
  | a :: x => by
    have ih := ltT_irr x
    unfold ltT at *
    rw [Op.bytesLess, ih]
    simp
theorem ltT_cons (a b : UInt8) (x y : List UInt8) : ltT (a :: x) (b :: y) = true ↔ a < b ∨ (a = b ∧ ltT x y = true) := by
  unfold ltT
  rw [Op.bytesLess]
  simp
theorem ltT_tr : ∀ a b c : List UInt8, ltT a b = true → ltT b c = true → ltT a c = true
  | _, _, [], _, h => by simp [ltT, Op.bytesLess] at h
  | _, [], _ :: _, h, _ => by simp [ltT, Op.bytesLess] at h
  | [], _ :: _, _ :: _, _, _ => by simp [ltT, Op.bytesLess]
  | a :: x, b :: y, c :: z, h1, h2 => by
    rw [ltT_cons] at *
    rcases h1 with h1 | ⟨rfl, h1⟩
    · rcases h2 with h2 | ⟨rfl, h2⟩
      · exact .inl (UInt8.lt_trans h1 h2)
      · exact .inl h1
    · rcases h2 with h2 | ⟨rfl, h2⟩
      · exact .inl h2
      · exact .inr ⟨rfl, ltT_tr x y z h1 h2⟩
theorem ltT_tot : ∀ a b : List UInt8, ltT a b = false → ltT b a = false → a = b
  | [], [], _, _ => rfl
  | [], _ :: _, h, _ => by simp [ltT, Op.bytesLess] at h
  | _ :: _, [], _, h => by simp [ltT, Op.bytesLess] at h
  | a :: x, b :: y, h1, h2 => by
    have h1 : ¬ (ltT (a :: x) (b :: y) = true) := by rw [h1]; simp
    have h2 : ¬ (ltT (b :: y) (a :: x) = true) := by rw [h2]; simp
    rw [ltT_cons] at h1 h2
    have e : a = b := by
      have p1 : ¬ a < b := fun g => h1 (.inl g)
      have p2 : ¬ b < a := fun g => h2 (.inl g)
      exact UInt8.le_antisymm (UInt8.not_lt.1 p2) (UInt8.not_lt.1 p1)
    subst e
    rw [ltT_tot x y (by simpa using fun g => h1 (.inr ⟨rfl, g⟩)) (by simpa using fun g => h2 (.inr ⟨rfl, g⟩))]
theorem strictT : Strict ltT := ⟨ltT_irr, ltT_tr, ltT_tot⟩

/-! A value by its norm. -/
def digF : List UInt8 → List UInt8 → List UInt8
  | run, [] => if run.length = 4 then run else []
  | run, c :: t => if dgB5 c = true then digF (run ++ [c]) t else if run.length = 4 then run else digF [] t
def digits4 (l : List UInt8) : List UInt8 := digF [] l
def clip4 (l : List UInt8) : List UInt8 := enc ((runes l).take 4)
def normV (n : Int) (v : List UInt8) : List UInt8 :=
  if n = 0 then v else if n = 1 then wordX v else if n = 2 then (if (isbnI v).2 = 0 then (isbnI v).1 else []) else if n = 3 then clip4 (wordX v) else digits4 v
/-- The changed values of the fields, in the record's order, the empty ones left out. -/
def valsF (k : MKey) (f : Fld) : List (List UInt8) := if f.tag = k.tag then ((f.subs.filter fun s => decide (s.1 = k.code)).map fun s => normV k.norm s.2).filter (fun v => decide (v ≠ [])) else []
def valsK (k : MKey) (r : Rec) : List (List UInt8) := r.fields.flatMap (valsF k)
def keysM (k : MKey) (r : Rec) : List (List UInt8) := (valsK k r).foldl (putO ltT) []
theorem keysM_asc (k : MKey) (r : Rec) : AscO ltT (keysM k r) := putO_fold_asc strictT _ _ List.Pairwise.nil
theorem keysM_mem (k : MKey) (r : Rec) (v : List UInt8) : v ∈ keysM k r ↔ v ∈ valsK k r := by
  unfold keysM
  rw [putO_fold_mem]
  simp
/-- What ascends and has the same elements is the keys. -/
theorem keysM_only (k : MKey) (r : Rec) (L : List (List UInt8)) (h : AscO ltT L) (hm : ∀ v, v ∈ L ↔ v ∈ valsK k r) : L = keysM k r :=
  asc_ext15 strictT L _ h (keysM_asc k r) fun v => (hm v).trans (keysM_mem k r v).symm

/-! Scores. -/
def meetL (A B : List (List UInt8)) : Bool := A.any fun x => B.any fun y => decide (x = y)
theorem meetL_iff (A B : List (List UInt8)) : meetL A B = true ↔ ∃ x, x ∈ A ∧ x ∈ B := by
  unfold meetL
  simp only [List.any_eq_true, decide_eq_true_eq]
  exact ⟨fun ⟨x, h, y, g, e⟩ => ⟨x, h, e ▸ g⟩, fun ⟨x, h, g⟩ => ⟨x, h, x, g, rfl⟩⟩
theorem meetL_comm (A B : List (List UInt8)) : meetL A B = meetL B A := by
  rw [Bool.eq_iff_iff, meetL_iff, meetL_iff]
  exact ⟨fun ⟨x, h, g⟩ => ⟨x, g, h⟩, fun ⟨x, h, g⟩ => ⟨x, g, h⟩⟩
def partM (a b : Rec) (k : MKey) : Int := if meetL (keysM k a) (keysM k b) = true then k.weight else 0
def scoreM (m : MRule) (a b : Rec) : Int := (m.keys.map (partM a b)).sum
theorem scoreM_comm (m : MRule) (a b : Rec) : scoreM m a b = scoreM m b a := by
  unfold scoreM
  congr 1
  refine List.map_congr_left fun k _ => ?_
  unfold partM
  rw [meetL_comm]

/-! What is found. -/
def ltF (p q : Int × Int) : Bool := decide (p.1 > q.1) || (decide (p.1 = q.1) && decide (p.2 < q.2))
theorem ltF_iff (p q : Int × Int) : ltF p q = true ↔ p.1 > q.1 ∨ (p.1 = q.1 ∧ p.2 < q.2) := by unfold ltF; simp
theorem strictF : Strict ltF where
  irr a := by
    have : ¬ (ltF a a = true) := by rw [ltF_iff]; omega
    simpa using this
  tr a b c h1 h2 := by rw [ltF_iff] at *; omega
  tot a b h1 h2 := by
    have h1 : ¬ (ltF a b = true) := by rw [h1]; simp
    have h2 : ¬ (ltF b a = true) := by rw [h2]; simp
    rw [ltF_iff] at h1 h2
    exact Prod.ext (by omega) (by omega)
def hitsM (m : MRule) (l : List Rec) (r : Rec) : List (Int × Int) := (l.filter fun x => decide (x.id ≠ r.id) && decide (m.need ≤ scoreM m x r)).map fun x => (scoreM m x r, x.id)
def foundM (m : MRule) (l : List Rec) (r : Rec) : List (Int × Int) := (hitsM m l r).foldl (insO ltF) []
def findM (m : MRule) (l : List Rec) (r : Rec) : List Int := (foundM m l r).map (·.2)
theorem ins_fold_mem {α : Type} (lt : α → α → Bool) : ∀ (M L : List α) (y : α), y ∈ M.foldl (insO lt) L ↔ y ∈ L ∨ y ∈ M
  | [], L, y => by simp
  | m :: M, L, y => by rw [List.foldl_cons, ins_fold_mem lt M (insO lt L m) y, insO_mem, List.mem_cons, or_assoc]
theorem ins_fold_len {α : Type} (lt : α → α → Bool) : ∀ (M L : List α), (M.foldl (insO lt) L).length = L.length + M.length
  | [], L => by simp
  | m :: M, L => by rw [List.foldl_cons, ins_fold_len lt M (insO lt L m), insO_len, List.length_cons]; omega
theorem ins_fold_asc {α : Type} {lt : α → α → Bool} (S : Strict lt) : ∀ (M L : List α), AscO lt L → M.Nodup → (∀ x ∈ M, x ∉ L) → AscO lt (M.foldl (insO lt) L)
  | [], _, h, _, _ => h
  | m :: M, L, h, hn, hx => by
    rw [List.nodup_cons] at hn
    refine ins_fold_asc S M (insO lt L m) (insO_asc S m L h (hx m List.mem_cons_self)) hn.2 fun x hxM g => ?_
    rcases (insO_mem lt L m x).1 g with g | rfl
    · exact hx x (List.mem_cons_of_mem _ hxM) g
    · exact hn.1 hxM
def idsOf (l : List Rec) : List Int := l.map (·.id)
theorem hits_nodup (m : MRule) (l : List Rec) (r : Rec) (h : (idsOf l).Nodup) : (hitsM m l r).Nodup := by
  unfold hitsM idsOf at *
  rw [List.nodup_iff_pairwise_ne, List.pairwise_map] at *
  refine (List.Pairwise.filter _ h).imp fun {a b} hab e => hab (Prod.mk.inj e).2
theorem found_asc (m : MRule) (l : List Rec) (r : Rec) (h : (idsOf l).Nodup) : AscO ltF (foundM m l r) := ins_fold_asc strictF _ _ List.Pairwise.nil (hits_nodup m l r h) (fun _ _ g => by cases g)
theorem found_mem (m : MRule) (l : List Rec) (r : Rec) (p : Int × Int) : p ∈ foundM m l r ↔ p ∈ hitsM m l r := by
  unfold foundM
  rw [ins_fold_mem]
  simp
theorem found_only (m : MRule) (l : List Rec) (r : Rec) (h : (idsOf l).Nodup) (L : List (Int × Int)) (hL : AscO ltF L) (hm : ∀ p, p ∈ L ↔ p ∈ hitsM m l r) : L = foundM m l r :=
  asc_ext15 strictF L _ hL (found_asc m l r h) fun p => (hm p).trans (found_mem m l r p).symm
theorem find_mem (m : MRule) (l : List Rec) (r : Rec) (x : Int) : x ∈ findM m l r ↔ ∃ a ∈ l, a.id = x ∧ a.id ≠ r.id ∧ m.need ≤ scoreM m a r := by
  unfold findM
  rw [List.mem_map]
  constructor
  · rintro ⟨p, hp, rfl⟩
    rw [found_mem] at hp
    unfold hitsM at hp
    obtain ⟨a, ha, rfl⟩ := List.mem_map.1 hp
    rw [List.mem_filter, Bool.and_eq_true, decide_eq_true_iff, decide_eq_true_iff] at ha
    exact ⟨a, ha.1, rfl, ha.2.1, ha.2.2⟩
  · rintro ⟨a, ha, rfl, h1, h2⟩
    refine ⟨(scoreM m a r, a.id), ?_, rfl⟩
    rw [found_mem]
    unfold hitsM
    refine List.mem_map.2 ⟨a, ?_, rfl⟩
    rw [List.mem_filter, Bool.and_eq_true, decide_eq_true_iff, decide_eq_true_iff]
    exact ⟨ha, h1, h2⟩

/-! Pairs. -/
def ltP (p q : Int × Int) : Bool := decide (p.1 < q.1) || (decide (p.1 = q.1) && decide (p.2 < q.2))
theorem ltP_iff (p q : Int × Int) : ltP p q = true ↔ p.1 < q.1 ∨ (p.1 = q.1 ∧ p.2 < q.2) := by unfold ltP; simp
theorem strictP : Strict ltP where
  irr a := by
    have : ¬ (ltP a a = true) := by rw [ltP_iff]; omega
    simpa using this
  tr a b c h1 h2 := by rw [ltP_iff] at *; omega
  tot a b h1 h2 := by
    have h1 : ¬ (ltP a b = true) := by rw [h1]; simp
    have h2 : ¬ (ltP b a = true) := by rw [h2]; simp
    rw [ltP_iff] at h1 h2
    exact Prod.ext (by omega) (by omega)
def twosA (m : MRule) (a : Rec) (l : List Rec) : List (Int × Int) := (l.filter fun b => decide (a.id < b.id) && decide (m.need ≤ scoreM m a b)).map fun b => (a.id, b.id)
def twosM (m : MRule) (l : List Rec) : List (Int × Int) := l.flatMap fun a => twosA m a l
def pairsM (m : MRule) (l : List Rec) : List (Int × Int) := (twosM m l).foldl (insO ltP) []
theorem pairs_len (m : MRule) (l : List Rec) : (pairsM m l).length = (twosM m l).length := by
  unfold pairsM
  rw [ins_fold_len, List.length_nil, Nat.zero_add]
theorem pairs_mem (m : MRule) (l : List Rec) (p : Int × Int) : p ∈ pairsM m l ↔ p ∈ twosM m l := by
  unfold pairsM
  rw [ins_fold_mem]
  simp
theorem mem_twosA (m : MRule) (a : Rec) (l : List Rec) (p : Int × Int) : p ∈ twosA m a l ↔ ∃ b ∈ l, p = (a.id, b.id) ∧ a.id < b.id ∧ m.need ≤ scoreM m a b := by
  unfold twosA
  rw [List.mem_map]
  constructor
  · rintro ⟨b, hb, rfl⟩
    rw [List.mem_filter, Bool.and_eq_true, decide_eq_true_iff, decide_eq_true_iff] at hb
    exact ⟨b, hb.1, rfl, hb.2.1, hb.2.2⟩
  · rintro ⟨b, hb, rfl, h1, h2⟩
    refine ⟨b, ?_, rfl⟩
    rw [List.mem_filter, Bool.and_eq_true, decide_eq_true_iff, decide_eq_true_iff]
    exact ⟨hb, h1, h2⟩
theorem twosA_nodup (m : MRule) (a : Rec) (l : List Rec) (h : (idsOf l).Nodup) : (twosA m a l).Nodup := by
  unfold twosA idsOf at *
  rw [List.nodup_iff_pairwise_ne, List.pairwise_map] at *
  exact (List.Pairwise.filter _ h).imp fun {a b} hab e => hab (Prod.mk.inj e).2
theorem twos_nodup' (m : MRule) (M : List Rec) (hM : (idsOf M).Nodup) : ∀ l : List Rec, (idsOf l).Nodup → (l.flatMap fun a => twosA m a M).Nodup
  | [], _ => List.nodup_nil
  | a :: l, h => by
    unfold idsOf at h
    rw [List.map_cons, List.nodup_cons] at h
    rw [List.flatMap_cons, List.nodup_append]
    refine ⟨twosA_nodup m a M hM, twos_nodup' m M hM l h.2, fun p hp q hq e => ?_⟩
    subst e
    obtain ⟨b, -, rfl, -⟩ := (mem_twosA m a M p).1 hp
    obtain ⟨c, hc, hq⟩ := List.mem_flatMap.1 hq
    obtain ⟨b', -, e, -⟩ := (mem_twosA m c M _).1 hq
    exact h.1 (List.mem_map.2 ⟨c, hc, ((Prod.mk.inj e).1).symm⟩)
theorem pairs_asc (m : MRule) (l : List Rec) (h : (idsOf l).Nodup) : AscO ltP (pairsM m l) := ins_fold_asc strictP _ _ List.Pairwise.nil (twos_nodup' m l h l h) (fun _ _ g => by cases g)
theorem pairs_only (m : MRule) (l : List Rec) (h : (idsOf l).Nodup) (L : List (Int × Int)) (hL : AscO ltP L) (hm : ∀ p, p ∈ L ↔ p ∈ twosM m l) : L = pairsM m l :=
  asc_ext15 strictP L _ hL (pairs_asc m l h) fun p => (hm p).trans (pairs_mem m l p).symm

/-! A rule. -/
def keyE (k : MKey) : Int := if tagB k.tag = false then 6 else if codeB k.code = false then 1 else if k.norm < 0 ∨ 4 < k.norm ∨ k.weight < 1 ∨ 100 < k.weight then 2 else 0
def keysE : List MKey → Int
  | [] => 0
  | k :: r => if keyE k = 0 then keysE r else keyE k
def rightM (m : MRule) : Int := if m.keys = [] then 8 else if 8 < m.keys.length then 13 else if keysE m.keys ≠ 0 then keysE m.keys else if m.need < 1 ∨ 800 < m.need then 2 else 0
theorem keysE_ok : ∀ L : List MKey, keysE L = 0 → ∀ k ∈ L, keyE k = 0
  | [], _, k, h => by cases h
  | x :: L, h, k, hk => by
    rw [keysE] at h
    by_cases hx : keyE x = 0
    · rw [if_pos hx] at h
      rcases List.mem_cons.1 hk with rfl | hk
      · exact hx
      · exact keysE_ok L h k hk
    · rw [if_neg hx] at h
      exact absurd h hx
theorem right_key (m : MRule) (h : rightM m = 0) : m.keys ≠ [] ∧ m.keys.length ≤ 8 ∧ (∀ k ∈ m.keys, tagB k.tag = true ∧ codeB k.code = true ∧ 0 ≤ k.norm ∧ k.norm ≤ 4 ∧ 1 ≤ k.weight ∧ k.weight ≤ 100) ∧ 1 ≤ m.need ∧ m.need ≤ 800 := by
  unfold rightM at h
  by_cases h1 : m.keys = []
  · rw [if_pos h1] at h; omega
  rw [if_neg h1] at h
  by_cases h2 : 8 < m.keys.length
  · rw [if_pos h2] at h; omega
  rw [if_neg h2] at h
  by_cases h3 : keysE m.keys = 0
  · rw [if_neg (by simpa using h3)] at h
    by_cases h4 : m.need < 1 ∨ 800 < m.need
    · rw [if_pos h4] at h; omega
    refine ⟨h1, by omega, fun k hk => ?_, by omega, by omega⟩
    have := keysE_ok _ h3 k hk
    unfold keyE at this
    by_cases g1 : tagB k.tag = false
    · rw [if_pos g1] at this; omega
    rw [if_neg g1] at this
    by_cases g2 : codeB k.code = false
    · rw [if_pos g2] at this; omega
    rw [if_neg g2] at this
    by_cases g3 : k.norm < 0 ∨ 4 < k.norm ∨ k.weight < 1 ∨ 100 < k.weight
    · rw [if_pos g3] at this; omega
    exact ⟨by simpa using g1, by simpa using g2, by omega, by omega, by omega, by omega⟩
  · rw [if_pos (by simpa using h3)] at h
    exact absurd h h3
theorem sum_bound (f : MKey → Int) : ∀ L : List MKey, (∀ k ∈ L, 0 ≤ f k ∧ f k ≤ 100) → 0 ≤ (L.map f).sum ∧ (L.map f).sum ≤ 100 * L.length
  | [], _ => by simp
  | k :: L, h => by
    have h1 := h k List.mem_cons_self
    have h2 := sum_bound f L fun x hx => h x (List.mem_cons_of_mem _ hx)
    rw [List.map_cons, List.sum_cons, List.length_cons]
    omega
theorem score_bound (m : MRule) (h : rightM m = 0) (a b : Rec) : 0 ≤ scoreM m a b ∧ scoreM m a b ≤ 800 := by
  obtain ⟨-, hl, hk, -⟩ := right_key m h
  have := sum_bound (partM a b) m.keys fun k hkm => by
    have := hk k hkm
    unfold partM
    split <;> omega
  unfold scoreM
  omega
def standardM : MRule := ⟨[⟨[48, 50, 48], 97, 2, 100⟩, ⟨[48, 50, 50], 97, 0, 100⟩, ⟨[50, 52, 53], 97, 1, 50⟩, ⟨[49, 48, 48], 97, 1, 30⟩, ⟨[50, 54, 52], 99, 4, 20⟩, ⟨[50, 54, 48], 99, 4, 20⟩], 100⟩
end

section
open Go.RowKit
theorem drop_at15 (l : List UInt8) (i : Nat) (h : i < l.length) : l.drop i = l.getD i 0 :: l.drop (i + 1) := by
  rw [List.drop_eq_getElem_cons h, List.getD_eq_getElem?_getD, List.getElem?_eq_getElem h]
  rfl
theorem run_len (l : List UInt8) (i n : Nat) (hn : n ≤ i) (hi : i ≤ l.length) : ((l.drop (i - n)).take n).length = n := by
  rw [List.length_take, List.length_drop]
  omega
theorem run_snoc (l : List UInt8) (i n : Nat) (hn : n ≤ i) (hi : i < l.length) : (l.drop (i - n)).take n ++ [l.getD i 0] = (l.drop (i + 1 - (n + 1))).take (n + 1) := by
  rw [show i + 1 - (n + 1) = i - n by omega, List.take_succ_eq_append_getElem (by rw [List.length_drop]; omega)]
  congr 1
  have e : i - n + n = i := by omega
  simp only [List.getElem_drop, List.getD_eq_getElem?_getD, e, List.getElem?_eq_getElem hi, Option.getD_some]
theorem dig_start (l : List UInt8) : digF ((l.drop (0 - 0)).take 0) (l.drop 0) = digits4 l := rfl
theorem dig_run (l : List UInt8) (i n : Nat) (hn : n ≤ i) (hi : i < l.length) (hd : dgB5 (l.getD i 0) = true) :
    digF ((l.drop (i - n)).take n) (l.drop i) = digF ((l.drop (i + 1 - (n + 1))).take (n + 1)) (l.drop (i + 1)) := by
  rw [drop_at15 l i hi, digF, if_pos hd, run_snoc l i n hn hi]
theorem dig_found (l : List UInt8) (i : Nat) (hn : 4 ≤ i) (hi : i < l.length) (hd : dgB5 (l.getD i 0) = false) :
    digF ((l.drop (i - 4)).take 4) (l.drop i) = (l.drop (i - 4)).take 4 := by
  rw [drop_at15 l i hi, digF, if_neg (by rw [hd]; simp), if_pos (run_len l i 4 hn (by omega))]
theorem dig_none (l : List UInt8) (i n : Nat) (hn : n ≤ i) (hi : i < l.length) (hd : dgB5 (l.getD i 0) = false) (h4 : n ≠ 4) :
    digF ((l.drop (i - n)).take n) (l.drop i) = digF ((l.drop (i + 1 - 0)).take 0) (l.drop (i + 1)) := by
  rw [drop_at15 l i hi, digF, if_neg (by rw [hd]; simp), if_neg (by rw [run_len l i n hn (by omega)]; exact h4), List.take_zero]
theorem dig_end (l : List UInt8) (n : Nat) (hn : n ≤ l.length) : digF ((l.drop (l.length - n)).take n) (l.drop l.length) = if n = 4 then (l.drop (l.length - 4)).take 4 else [] := by
  rw [List.drop_length, digF, run_len l _ n hn (Nat.le_refl _)]
  by_cases h : n = 4
  · rw [if_pos h, if_pos h, h]
  · rw [if_neg h, if_neg h]
theorem id_inj (l : List Rec) (h : (idsOf l).Nodup) : ∀ a ∈ l, ∀ b ∈ l, a.id = b.id → a = b := by
  intro a ha b hb e
  obtain ⟨i, hi, rfl⟩ := List.getElem_of_mem ha
  obtain ⟨j, hj, rfl⟩ := List.getElem_of_mem hb
  have hij : i = j := by
    refine (List.getElem_inj (xs := idsOf l) (h₀ := by simpa [idsOf] using hi) (h₁ := by simpa [idsOf] using hj) h).1 ?_
    simp only [idsOf, List.getElem_map]
    exact e
  subst hij
  rfl
/-- Of two records of a list, one is found for the other exactly if their score is enough. -/
theorem find_has (m : MRule) (l : List Rec) (h : (idsOf l).Nodup) (a b : Rec) (hb : b ∈ l) (hab : a.id ≠ b.id) : b.id ∈ findM m l a ↔ m.need ≤ scoreM m a b := by
  rw [find_mem]
  constructor
  · rintro ⟨x, hx, e, -, hs⟩
    rw [id_inj l h x hx b hb e, scoreM_comm] at hs
    exact hs
  · intro hs
    exact ⟨b, hb, rfl, fun e => hab e.symm, by rw [scoreM_comm]; exact hs⟩
/-- How many pairs the first i records have, and the next one with the first k. -/
def cntM (m : MRule) (l : List Rec) (i k : Nat) : Nat := (((l.take i).flatMap fun a => twosA m a l).length) + (twosA m (l.getD i rec0) (l.take k)).length
theorem twosA_snoc (m : MRule) (a : Rec) (l : List Rec) (k : Nat) (hk : k < l.length) : (twosA m a (l.take (k + 1))).length = (twosA m a (l.take k)).length + if a.id < (l.getD k rec0).id ∧ m.need ≤ scoreM m a (l.getD k rec0) then 1 else 0 := by
  have e : l.take (k + 1) = l.take k ++ [l.getD k rec0] := by
    rw [List.take_succ_eq_append_getElem hk, List.getD_eq_getElem?_getD, List.getElem?_eq_getElem hk]
    rfl
  unfold twosA
  rw [e, List.filter_append, List.map_append, List.length_append]
  congr 1
  generalize l.getD k rec0 = b
  by_cases h : a.id < b.id ∧ m.need ≤ scoreM m a b
  · rw [if_pos h]; simp [h.1, h.2]
  · rw [if_neg h]
    by_cases h1 : a.id < b.id
    · have h2 : ¬ m.need ≤ scoreM m a b := fun g => h ⟨h1, g⟩
      simp [h1, h2]
    · simp [h1]
theorem cnt_snoc (m : MRule) (l : List Rec) (i k : Nat) (hk : k < l.length) : cntM m l i (k + 1) = cntM m l i k + if (l.getD i rec0).id < (l.getD k rec0).id ∧ m.need ≤ scoreM m (l.getD i rec0) (l.getD k rec0) then 1 else 0 := by
  unfold cntM
  rw [twosA_snoc m _ l k hk, Nat.add_assoc]
theorem cnt_next (m : MRule) (l : List Rec) (i : Nat) (hi : i < l.length) : cntM m l (i + 1) 0 = cntM m l i l.length := by
  have e : l.take (i + 1) = l.take i ++ [l.getD i rec0] := by
    rw [List.take_succ_eq_append_getElem hi, List.getD_eq_getElem?_getD, List.getElem?_eq_getElem hi]
    rfl
  unfold cntM
  rw [e, List.flatMap_append, List.length_append, List.take_length]
  simp [twosA]
theorem cnt_end (m : MRule) (l : List Rec) : cntM m l l.length 0 = (pairsM m l).length := by
  unfold cntM
  rw [pairs_len, List.take_length]
  simp [twosA, twosM]
theorem cnt_start (m : MRule) (l : List Rec) : cntM m l 0 0 = 0 := by simp [cntM, twosA]
end

section
open Go.RowKit
def valsS (k : MKey) (f : Fld) (S : List Sub) : List (List UInt8) := if f.tag = k.tag then ((S.filter fun s => decide (s.1 = k.code)).map fun s => normV k.norm s.2).filter (fun v => decide (v ≠ [])) else []
theorem valsS_all (k : MKey) (f : Fld) : valsS k f f.subs = valsF k f := rfl
def keysP (k : MKey) (L : List Fld) (i j : Nat) : List (List UInt8) := (((L.take i).flatMap (valsF k)) ++ valsS k (L.getD i fd0) ((L.getD i fd0).subs.take j)).foldl (putO ltT) []
theorem keysP_start (k : MKey) (L : List Fld) : keysP k L 0 0 = [] := by
  unfold keysP valsS
  simp
theorem keysP_next (k : MKey) (L : List Fld) (i : Nat) (hi : i < L.length) : keysP k L i (L.getD i fd0).subs.length = keysP k L (i + 1) 0 := by
  unfold keysP
  rw [List.take_length, valsS_all]
  have e : L.take (i + 1) = L.take i ++ [L.getD i fd0] := by
    rw [List.take_succ_eq_append_getElem hi, List.getD_eq_getElem?_getD, List.getElem?_eq_getElem hi]
    rfl
  rw [e, List.flatMap_append]
  simp [valsS]
theorem keysP_end (k : MKey) (r : Rec) : keysP k r.fields r.fields.length 0 = keysM k r := by
  unfold keysP keysM valsK
  rw [List.take_length]
  simp [valsS]
theorem valsS_no (k : MKey) (f : Fld) (S : List Sub) (h : f.tag ≠ k.tag) : valsS k f S = [] := by
  unfold valsS
  rw [if_neg h]
theorem valsS_snoc (k : MKey) (f : Fld) (S : List Sub) (s : Sub) (h : f.tag = k.tag) : valsS k f (S ++ [s]) = valsS k f S ++ if s.1 = k.code ∧ normV k.norm s.2 ≠ [] then [normV k.norm s.2] else [] := by
  unfold valsS
  rw [if_pos h, if_pos h, List.filter_append, List.map_append, List.filter_append]
  congr 1
  by_cases h1 : s.1 = k.code
  · by_cases h2 : normV k.norm s.2 = []
    · rw [if_neg (fun g => g.2 h2)]; simp [h1, h2]
    · rw [if_pos ⟨h1, h2⟩]; simp [h1, h2]
  · rw [if_neg (fun g => h1 g.1)]; simp [h1]
theorem keysP_other (k : MKey) (L : List Fld) (i j j' : Nat) (h : (L.getD i fd0).tag ≠ k.tag) : keysP k L i j = keysP k L i j' := by
  unfold keysP
  rw [valsS_no k _ _ h, valsS_no k _ _ h]
theorem takeS15 (S : List Sub) (j : Nat) (hj : j < S.length) : S.take (j + 1) = S.take j ++ [S.getD j sub0] := by
  rw [List.take_succ_eq_append_getElem hj, List.getD_eq_getElem?_getD, List.getElem?_eq_getElem hj]
  rfl
theorem keysP_step (k : MKey) (L : List Fld) (i j : Nat) (h : (L.getD i fd0).tag = k.tag) (hj : j < (L.getD i fd0).subs.length) :
    keysP k L i (j + 1) = if ((L.getD i fd0).subs.getD j sub0).1 = k.code ∧ normV k.norm ((L.getD i fd0).subs.getD j sub0).2 ≠ [] then putO ltT (keysP k L i j) (normV k.norm ((L.getD i fd0).subs.getD j sub0).2) else keysP k L i j := by
  unfold keysP
  rw [takeS15 _ j hj, valsS_snoc k _ _ _ h]
  split
  · rw [← List.append_assoc, List.foldl_append]
    rfl
  · rw [List.append_nil]
theorem keysP_asc (k : MKey) (L : List Fld) (i j : Nat) : AscO ltT (keysP k L i j) := putO_fold_asc strictT _ _ List.Pairwise.nil
theorem putO_fold_len {α : Type} [DecidableEq α] (lt : α → α → Bool) : ∀ (M L : List α), (M.foldl (putO lt) L).length ≤ L.length + M.length
  | [], L => by simp
  | m :: M, L => by
    rw [List.foldl_cons, List.length_cons]
    have h1 := putO_fold_len lt M (putO lt L m)
    have h2 : (putO lt L m).length ≤ L.length + 1 := by
      unfold putO
      split
      · omega
      · rw [insO_len]; exact Nat.le_refl _
    omega
theorem valsS_len (k : MKey) (f : Fld) (S : List Sub) : (valsS k f S).length ≤ S.length := by
  unfold valsS
  split
  · have h1 := List.length_filter_le (fun v => decide (v ≠ [])) ((S.filter fun s => decide (s.1 = k.code)).map fun s => normV k.norm s.2)
    have h2 := List.length_filter_le (fun s : Sub => decide (s.1 = k.code)) S
    rw [List.length_map] at h1
    omega
  · exact Nat.zero_le _
theorem flat_len (k : MKey) : ∀ L : List Fld, (∀ f ∈ L, f.subs.length ≤ 20) → (L.flatMap (valsF k)).length ≤ 20 * L.length
  | [], _ => by simp
  | f :: L, h => by
    have h1 := flat_len k L fun x hx => h x (List.mem_cons_of_mem _ hx)
    have h2 := valsS_len k f f.subs
    have h3 := h f List.mem_cons_self
    rw [valsS_all] at h2
    rw [List.flatMap_cons, List.length_append, List.length_cons]
    omega
theorem keysP_len (k : MKey) (L : List Fld) (i j : Nat) (h : ∀ f ∈ L, f.subs.length ≤ 20) (hL : L.length ≤ 70) : (keysP k L i j).length ≤ 2000 := by
  unfold keysP
  have h1 := putO_fold_len ltT ((L.take i).flatMap (valsF k) ++ valsS k (L.getD i fd0) ((L.getD i fd0).subs.take j)) []
  have h2 := flat_len k (L.take i) fun f hf => h f (List.mem_of_mem_take hf)
  have h3 := valsS_len k (L.getD i fd0) ((L.getD i fd0).subs.take j)
  have h4 : (L.getD i fd0).subs.length ≤ 20 := by
    by_cases hi : i < L.length
    · rw [List.getD_eq_getElem?_getD, List.getElem?_eq_getElem hi]
      exact h _ (List.getElem_mem _)
    · rw [List.getD_eq_getElem?_getD, List.getElem?_eq_none (by omega)]
      exact Nat.zero_le _
  rw [List.length_append, List.length_nil] at h1
  rw [List.length_take] at h2 h3
  omega
end

end Go.Proofs.YtfjfpefpdlecbaaGreatDoor
