/- Merged: R07H, Plain08, RDigits. -/
import Derived.Test.YtnfallkeicehiaaDoorQ03
import Derived.Test.YtnfallkeicehiaaDoorQ06
import Derived.Test.YtnfallkeicehiaaDoorQ01
import Derived.Lib.ItoaNum
import Derived.Lib.Itoa
namespace Go.Proofs.YtnfallkeicehiaaDoor

section
open Go.RowKit Go.PlainAid
/-- The first k texts with these bytes between them. -/
def joinK (c : List UInt8) (L : List (List UInt8)) : Nat → List UInt8
  | 0 => []
  | k + 1 => if k = 0 then L.getD 0 [] else joinK c L k ++ c ++ L.getD k []
theorem joinK_le (c : List UInt8) (L : List (List UInt8)) (hc : c.length ≤ 1000) (hL : ∀ i, (L.getD i []).length ≤ 1000000) : ∀ k, (joinK c L k).length ≤ k * 1001000
  | 0 => Nat.le_refl _
  | k + 1 => by
    have h := joinK_le c L hc hL k
    have h0 := hL 0
    have hk := hL k
    rw [joinK]
    by_cases h1 : k = 0
    · rw [if_pos h1]; omega
    · rw [if_neg h1, List.length_append, List.length_append]; omega
def plainL (subs : List Sub) (codes : List UInt8) : List UInt8 := joinK [32] (allL subs codes) (allL subs codes).length
end

section
def fd0 : Fld := ⟨[], [], [], 0⟩
structure Rec where
  id : Int
  ver : Int
  kind : Int
  lang : List UInt8
  fields : List Fld
def rec0 : Rec := ⟨0, 0, 0, [], []⟩
theorem sameB_iff (f g : Fld) : sameB f g = true ↔ f = g := by
  cases f; cases g
  simp only [sameB, Bool.and_eq_true, decide_eq_true_eq, Fld.mk.injEq]
  constructor
  · rintro ⟨⟨⟨h1, h2⟩, h3⟩, h4⟩; exact ⟨h1, h2, h4, h3⟩
  · rintro ⟨h1, h2, h4, h3⟩; exact ⟨⟨⟨h1, h2⟩, h3⟩, h4⟩
theorem sameB_ne {f g : Fld} (h : sameB f g = false) : f ≠ g := fun e => by
  rw [(sameB_iff f g).2 e] at h
  cases h
def sameFB : List Fld → List Fld → Bool
  | [], [] => true
  | a :: s, b :: t => sameB a b && sameFB s t
  | _, _ => false
theorem sameFB_iff : ∀ A B : List Fld, sameFB A B = true ↔ A = B
  | [], [] => by simp [sameFB]
  | a :: s, [] => by simp [sameFB]
  | [], b :: t => by simp [sameFB]
  | a :: s, b :: t => by
    rw [sameFB, Bool.and_eq_true, sameB_iff, sameFB_iff s t, List.cons.injEq]
theorem sameFB_ne {A B : List Fld} (h : A ≠ B) : sameFB A B = false := by
  cases e : sameFB A B
  · rfl
  · exact absurd ((sameFB_iff A B).1 e) h
theorem fields_ext (A B : List Fld) (hl : A.length = B.length) (h : ∀ i, i < A.length → A.getD i fd0 = B.getD i fd0) : A = B := by
  refine List.ext_getElem hl fun i h1 h2 => ?_
  have := h i h1
  rwa [List.getD_eq_getElem?_getD, List.getD_eq_getElem?_getD, List.getElem?_eq_getElem h1, List.getElem?_eq_getElem h2] at this
def sameRB (a b : Rec) : Bool := decide (a.id = b.id) && decide (a.ver = b.ver) && decide (a.kind = b.kind) && decide (a.lang = b.lang) && sameFB a.fields b.fields
theorem sameRB_iff (a b : Rec) : sameRB a b = true ↔ a = b := by
  cases a; cases b
  simp only [sameRB, Bool.and_eq_true, decide_eq_true_eq, Rec.mk.injEq, sameFB_iff]
  constructor
  · rintro ⟨⟨⟨⟨h1, h2⟩, h3⟩, h4⟩, h5⟩; exact ⟨h1, h2, h3, h4, h5⟩
  · rintro ⟨h1, h2, h3, h4, h5⟩; exact ⟨⟨⟨⟨h1, h2⟩, h3⟩, h4⟩, h5⟩

/-! Right. -/
def firstFE : List Fld → Int
  | [] => 0
  | f :: t => if rightI f ≠ 0 then rightI f else firstFE t
theorem firstFE_hit : ∀ (L : List Fld) (k : Nat), k < L.length → (∀ j, j < k → rightI (L.getD j fd0) = 0) → rightI (L.getD k fd0) ≠ 0 → firstFE L = rightI (L.getD k fd0)
  | [], _, hk, _, _ => by cases hk
  | s :: t, 0, _, _, he => by
    have he : rightI s ≠ 0 := he
    rw [firstFE, if_pos he]
    rfl
  | s :: t, k + 1, hk, h, he => by
    have h0 : rightI s = 0 := h 0 (Nat.succ_pos k)
    rw [firstFE, if_neg (fun h => h h0)]
    exact firstFE_hit t k (by simpa using hk) (fun j hj => h (j + 1) (by omega)) he
theorem firstFE_miss : ∀ (L : List Fld), (∀ j, j < L.length → rightI (L.getD j fd0) = 0) → firstFE L = 0
  | [], _ => rfl
  | s :: t, h => by
    have h0 : rightI s = 0 := h 0 (by simp)
    rw [firstFE, if_neg (fun h => h h0)]
    exact firstFE_miss t (fun j hj => h (j + 1) (by simpa using hj))
theorem firstFE_zero : ∀ (L : List Fld), firstFE L = 0 ↔ ∀ f ∈ L, rightI f = 0
  | [] => by simp [firstFE]
  | f :: t => by
    rw [firstFE]
    by_cases h : rightI f = 0
    · rw [if_neg (fun g => g h), firstFE_zero t]
      simp [h]
    · rw [if_pos h]
      simp [h]
def lowB (x : UInt8) : Bool := decide (97 ≤ x.toNat) && decide (x.toNat ≤ 122)
def langB (l : List UInt8) : Bool := decide (l.length = 3) && lowB (l.getD 0 0) && lowB (l.getD 1 0) && lowB (l.getD 2 0)
def rightRI (r : Rec) : Int :=
  if r.id < 0 ∨ 9999 < r.id then 2 else if r.ver < 1 ∨ 3 < r.ver then 20 else if r.kind < 1 ∨ 4 < r.kind then 1 else if langB r.lang = false then 3
  else if 64 < r.fields.length then 4 else firstFE r.fields
theorem all_true {α : Type} (d : α) (p : α → Bool) : ∀ L : List α, (∀ j, j < L.length → p (L.getD j d) = true) → L.all p = true
  | [], _ => rfl
  | a :: t, h => by
    rw [List.all_cons, all_true d p t (fun j hj => h (j + 1) (by simpa using hj)), Bool.and_true]
    exact h 0 (by simp)
theorem all_false {α : Type} (d : α) (p : α → Bool) : ∀ (L : List α) (k : Nat), k < L.length → p (L.getD k d) = false → L.all p = false
  | [], _, hk, _ => by cases hk
  | a :: t, 0, _, h => by
    have h : p a = false := h
    rw [List.all_cons, h, Bool.false_and]
  | a :: t, k + 1, hk, h => by
    rw [List.all_cons, all_false d p t k (by simpa using hk) h, Bool.and_false]
theorem all_at {α : Type} (d : α) (p : α → Bool) (L : List α) (h : L.all p = true) (k : Nat) (hk : k < L.length) : p (L.getD k d) = true := by
  cases e : p (L.getD k d)
  · rw [all_false d p L k hk e] at h
    cases h
  · rfl
def smallFB (f : Fld) : Bool := decide (f.subs.length ≤ 20) && f.subs.all fun s => decide (s.2.length ≤ 300)
def smallRB (r : Rec) : Bool := decide (r.fields.length ≤ 70) && r.fields.all smallFB

/-! Fields, Insert, Remove. -/
theorem prefix_take (p t : List UInt8) : decide (t.take p.length = p) = p.isPrefixOf t := by
  rw [Bool.eq_iff_iff, decide_eq_true_iff, List.isPrefixOf_iff_prefix, List.prefix_iff_eq_take]
  exact ⟨fun h => h.symm, fun h => h.symm⟩
theorem prefix_short (p t : List UInt8) (h : t.length < p.length) : p.isPrefixOf t = false := by
  cases e : p.isPrefixOf t
  · rfl
  · have := (List.isPrefixOf_iff_prefix.1 e).length_le
    omega
def fieldsL (L : List Fld) (p : List UInt8) : List Fld := L.filter fun f => p.isPrefixOf f.tag
theorem fieldsL_snoc (L : List Fld) (p : List UInt8) (k : Nat) (h : k < L.length) : fieldsL (L.take (k + 1)) p = fieldsL (L.take k) p ++ (if p.isPrefixOf (L.getD k fd0).tag = true then [L.getD k fd0] else []) := by
  rw [List.take_succ_eq_append_getElem h, List.getD_eq_getElem?_getD, List.getElem?_eq_getElem h]
  unfold fieldsL
  rw [List.filter_append]
  congr 1
  show _ = if p.isPrefixOf L[k].tag = true then [L[k]] else []
  by_cases hi : p.isPrefixOf L[k].tag = true
  · rw [if_pos hi]; simp [hi]
  · rw [if_neg hi]; simp [hi]
theorem fieldsL_length (L : List Fld) (p : List UInt8) : (fieldsL L p).length ≤ L.length := List.length_filter_le _ _
def insL (L : List Fld) (i : Nat) (f : Fld) : List Fld := L.take i ++ f :: L.drop i
def remL (L : List Fld) (i : Nat) : List Fld := L.take i ++ L.drop (i + 1)
def insR (r : Rec) (i : Int) (f : Fld) : Rec × Int :=
  if i < 0 ∨ (r.fields.length : Int) < i then (rec0, 2) else if rightI f ≠ 0 then (rec0, rightI f) else if 64 ≤ r.fields.length then (rec0, 13)
  else ({ r with fields := insL r.fields i.toNat f }, 0)
def remR (r : Rec) (i : Int) : Rec × Int :=
  if i < 0 ∨ (r.fields.length : Int) ≤ i then (rec0, 2) else ({ r with fields := remL r.fields i.toNat }, 0)
theorem insL_len (L : List Fld) (i : Nat) (f : Fld) (h : i ≤ L.length) : (insL L i f).length = L.length + 1 := by
  simp [insL, List.length_take, List.length_drop]; omega
theorem remL_len (L : List Fld) (i : Nat) (h : i < L.length) : (remL L i).length + 1 = L.length := by
  simp [remL, List.length_take, List.length_drop]; omega
theorem rem_ins (L : List Fld) (i : Nat) (f : Fld) (h : i ≤ L.length) : remL (insL L i f) i = L := by
  have h1 : (L.take i).length = i := by rw [List.length_take]; omega
  unfold remL insL
  have e : (L.take i ++ f :: L.drop i).drop (i + 1) = L.drop i := by
    rw [List.drop_append, h1, List.drop_of_length_le (by omega), show i + 1 - i = 1 by omega]
    rfl
  rw [e, List.take_append_of_le_length (by omega), List.take_of_length_le (by omega), List.take_append_drop]
theorem ins_rem (L : List Fld) (i : Nat) (h : i < L.length) : insL (remL L i) i (L.getD i fd0) = L := by
  have h1 : (L.take i).length = i := by rw [List.length_take]; omega
  unfold remL insL
  rw [List.take_append_of_le_length (by omega), List.take_of_length_le (by omega)]
  rw [show (L.take i ++ L.drop (i + 1)).drop i = L.drop (i + 1) by rw [List.drop_append_of_le_length (by omega), List.drop_of_length_le (by omega)]; rfl]
  rw [show L.getD i fd0 = L[i] by rw [List.getD_eq_getElem?_getD, List.getElem?_eq_getElem h]; rfl, ← List.drop_eq_getElem_cons h, List.take_append_drop]
theorem ins_at (L : List Fld) (i : Nat) (f : Fld) (h : i ≤ L.length) : (insL L i f).getD i fd0 = f := by
  have h1 : (L.take i).length = i := by rw [List.length_take]; omega
  unfold insL
  rw [List.getD_eq_getElem?_getD, List.getElem?_append_right (by omega), h1, Nat.sub_self]
  rfl
theorem mem_ins (L : List Fld) (i : Nat) (f g : Fld) (h : g ∈ insL L i f) : g = f ∨ g ∈ L := by
  unfold insL at h
  rcases List.mem_append.1 h with h | h
  · exact .inr (List.mem_of_mem_take h)
  · rcases List.mem_cons.1 h with h | h
    · exact .inl h
    · exact .inr (List.mem_of_mem_drop h)
theorem mem_rem (L : List Fld) (i : Nat) (g : Fld) (h : g ∈ remL L i) : g ∈ L := by
  unfold remL at h
  rcases List.mem_append.1 h with h | h
  · exact List.mem_of_mem_take h
  · exact List.mem_of_mem_drop h
end

section
open Go.RowKit
theorem dec1 (n : Nat) (h : n < 10) : Lib.decDigits n = [dgt n] := by rw [Lib.decDigits, dif_pos h]; rfl
theorem decS (n : Nat) (h : ¬ n < 10) : Lib.decDigits n = Lib.decDigits (n / 10) ++ [dgt (n % 10)] := by rw [Lib.decDigits, dif_neg h]; rfl
theorem dec_pos (n : Nat) : 0 < (Lib.decDigits n).length := by
  by_cases h : n < 10
  · rw [dec1 n h]; exact Nat.one_pos
  · rw [decS n h]; simp
theorem dec_bound : ∀ n, (Lib.decDigits n).length ≤ n + 1 := by
  intro n
  induction n using Nat.strongRecOn with
  | ind n ih =>
    by_cases h : n < 10
    · rw [dec1 n h]; simp
    · rw [decS n h]
      have := ih (n / 10) (by omega)
      simp
      omega
/-- Zeros in front, up to a width. -/
def padL (k : Nat) (l : List UInt8) : List UInt8 := List.replicate (k - l.length) 48 ++ l

theorem digit_at : ∀ r, r < 10 → (ByteArray.mk #[48, 49, 50, 51, 52, 53, 54, 55, 56, 57]).extract r (r + 1) = S [dgt r] := by decide +kernel
def strL : Value → Nat
  | .string s => s.size
  | _ => 0
def strZ : Value → Nat
  | .string s => if s.size = 0 then 1 else 0
  | _ => 0
end

end Go.Proofs.YtnfallkeicehiaaDoor
