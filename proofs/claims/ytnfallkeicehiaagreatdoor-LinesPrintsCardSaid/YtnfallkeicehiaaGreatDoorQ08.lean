/- Merged: R07H, Plain08, RDigits. -/
import Derived.Test.YtnfallkeicehiaaGreatDoorQ03
import Derived.Test.YtnfallkeicehiaaGreatDoorQ07
import Derived.Test.YtnfallkeicehiaaGreatDoorQ01
import Derived.Lib.ItoaNum
import Derived.Lib.Itoa
namespace Go.Proofs.YtnfallkeicehiaaGreatDoor

section
open Go.RowKit Go.PlainAid
/-- The first k texts with these bytes between them. -/
def joinK (c : List UInt8) (L : List (List UInt8)) : Nat → List UInt8
  | 0 => []
  | k + 1 => if k = 0 then L.getD 0 [] else joinK c L k ++ c ++ L.getD k []
theorem joinK_le (c : List UInt8) (L : List (List UInt8)) (hc : c.length ≤ 1000) (hL : ∀ i, (L.getD i []).length ≤ 1000000) : ∀ k, (joinK c L k).length ≤ k * 1001000
  | 0 => Nat.le_refl _
  | k + 1 => by
    have h := joinK_le c L hc hL k
    have h0 := hL 0
    have hk := hL k
    rw [joinK]
    by_cases h1 : k = 0
    · rw [if_pos h1]; omega
    · rw [if_neg h1, List.length_append, List.length_append]; omega
def plainL (subs : List Sub) (codes : List UInt8) : List UInt8 := joinK [32] (allL subs codes) (allL subs codes).length
end

section
def fd0 : Fld := ⟨[], [], [], 0⟩
structure Rec where
  id : Int
  ver : Int
  kind : Int
  lang : List UInt8
  fields : List Fld
def rec0 : Rec := ⟨0, 0, 0, [], []⟩
theorem sameB_iff (f g : Fld) : sameB f g = true ↔ f = g := by
  cases f; cases g
  simp only [sameB, Bool.and_eq_true, decide_eq_true_eq, Fld.mk.injEq]
  constructor
  · rintro ⟨⟨⟨h1, h2⟩, h3⟩, h4⟩; exact ⟨h1, h2, h4, h3⟩
  · rintro ⟨h1, h2, h4, h3⟩; exact ⟨⟨⟨h1, h2⟩, h3⟩, h4⟩
theorem sameB_ne {f g : Fld} (h : sameB f g = false) : f ≠ g := fun e => by
  rw [(sameB_iff f g).2 e] at h
  cases h
def sameFB : List Fld → List Fld → Bool
  | [], [] => true
  | a :: s, b :: t => sameB a b && sameFB s t
  | _, _ => false
theorem sameFB_iff : ∀ A B : List Fld, sameFB A B = true ↔ A = B
  | [], [] => by simp [sameFB]
  | a :: s, [] => by simp [sameFB]
  | [], b :: t => by simp [sameFB]
  | a :: s, b :: t => by
    rw [sameFB, Bool.and_eq_true, sameB_iff, sameFB_iff s t, List.cons.injEq]
theorem sameFB_ne {A B : List Fld} (h : A ≠ B) : sameFB A B = false := by
  cases e : sameFB A B
  · rfl
  · exact absurd ((sameFB_iff A B).1 e) h
theorem fields_ext (A B : List Fld) (hl : A.length = B.length) (h : ∀ i, i < A.length → A.getD i fd0 = B.getD i fd0) : A = B := by
  refine List.ext_getElem hl fun i h1 h2 => ?_
  have := h i h1
  rwa [List.getD_eq_getElem?_getD, List.getD_eq_getElem?_getD, List.getElem?_eq_getElem h1, List.getElem?_eq_getElem h2] at this
def sameRB (a b : Rec) : Bool := decide (a.id = b.id) && decide (a.ver = b.ver) && decide (a.kind = b.kind) && decide (a.lang = b.lang) && sameFB a.fields b.fields
theorem sameRB_iff (a b : Rec) : sameRB a b = true ↔ a = b := by
  cases a; cases b
  simp only [sameRB, Bool.and_eq_true, decide_eq_true_eq, Rec.mk.injEq, sameFB_iff]
  constructor
  · rintro ⟨⟨⟨⟨h1, h2⟩, h3⟩, h4⟩, h5⟩; exact ⟨h1, h2, h3, h4, h5⟩
  · rintro ⟨h1, h2, h3, h4, h5⟩; exact ⟨⟨⟨⟨h1, h2⟩, h3⟩, h4⟩, h5⟩

/-! Right. -/
def firstFE : List Fld → Int
  | [] => 0
  | f :: t => if rightI f ≠ 0 then rightI f else firstFE t
theorem firstFE_hit : ∀ (L : List Fld) (k : Nat), k < L.length → (∀ j, j < k → rightI (L.getD j fd0) = 0) → rightI (L.getD k fd0) ≠ 0 → firstFE L = rightI (L.getD k fd0)
  | [], _, hk, _, _ => by cases hk
  | s :: t, 0, _, _, he => by
    have he : rightI s ≠ 0 := he
    rw [firstFE, if_pos he]
    rfl
  | s :: t, k + 1, hk, h, he => by
    have h0 : rightI s = 0 := h 0 (Nat.succ_pos k)
    rw [firstFE, if_neg (fun h => h h0)]
    exact firstFE_hit t k (by simpa using hk) (fun j hj => h (j + 1) (by omega)) he
theorem firstFE_miss : ∀ (L : List Fld), (∀ j, j < L.length → rightI (L.getD j fd0) = 0) → firstFE L = 0
  | [], _ => rfl
  | s :: t, h => by
    have h0 : rightI s = 0 := h 0 (by simp)
    rw [firstFE, if_neg (fun h => h h0)]
    exact firstFE_miss t (fun j hj => h (j + 1) (by simpa using hj))
theorem firstFE_zero : ∀ (L : List Fld), firstFE L = 0 ↔ ∀ f ∈ L, rightI f = 0
  | [] => by simp [firstFE]
  | f :: t => by
    rw [firstFE]
    by_cases h : rightI f = 0
    · rw [if_neg (fun g => g h), firstFE_zero t]
      simp [h]
    · rw [if_pos h]
      simp [h]
def lowB (x : UInt8) : Bool := decide (97 ≤ x.toNat) && decide (x.toNat ≤ 122)
def langB (l : List UInt8) : Bool := decide (l.length = 3) && lowB (l.getD 0 0) && lowB (l.getD 1 0) && lowB (l.getD 2 0)
def rightRI (r : Rec) : Int :=
  if r.id < 0 ∨ 9999 < r.id then 2 else if r.ver < 1 ∨ 3 < r.ver then 20 else if r.kind < 1 ∨ 4 < r.kind then 1 else if langB r.lang = false then 3
  else if 64 < r.fields.length then 4 else firstFE r.fields
theorem all_true {α : Type} (d : α) (p : α → Bool) : ∀ L : List α, (∀ j, j < L.length → p (L.getD j d) = true) → L.all p = true
  | [], _ => rfl
  | a :: t, h => by
    rw [List.all_cons, all_true d p t (fun j hj => h (j + 1) (by simpa using hj)), Bool.and_true]
    exact h 0 (by simp)
theorem all_false {α : Type} (d : α) (p : α → Bool) : ∀ (L : List α) (k : Nat), k < L.length → p (L.getD k d) = false → L.all p = false
  | [], _, hk, _ => by cases hk
  | a :: t, 0, _, h => by
    have h : p a = false := h
    rw [List.all_cons, h, Bool.false_and]
  | a :: t, k + 1, hk, h => by
    rw [List.all_cons, all_false d p t k (by simpa using hk) h, Bool.and_false]
theorem all_at {α : Type} (d : α) (p : α → Bool) (L : List α) (h : L.all p = true) (k : Nat) (hk : k < L.length) : p (L.getD k d) = true := by
  cases e : p (L.getD k d)
  · rw [all_false d p L k hk e] at h
    cases h
  · rfl
def smallFB (f : Fld) : Bool := decide (f.subs.length ≤ 20) && f.subs.all fun s => decide (s.2.length ≤ 300)
def smallRB (r : Rec) : Bool := decide (r.fields.length ≤ 70) && r.fields.all smallFB

/-! Fields, Insert, Remove. -/
theorem prefix_take (p t : List UInt8) : decide (t.take p.length = p) = p.isPrefixOf t := by
  rw [Bool.eq_iff_iff, decide_eq_true_iff, List.isPrefixOf_iff_prefix, List.prefix_iff_eq_take]
  exact ⟨fun h => h.symm, fun h => h.symm⟩
theorem prefix_short (p t : List UInt8) (h : t.length < p.length) : p.isPrefixOf t = false := by
  cases e : p.isPrefixOf t
  · rfl
  · have := (List.isPrefixOf_iff_prefix.1 e).length_le
    omega
def fieldsL (L : List Fld) (p : List UInt8) : List Fld := L.filter fun f => p.isPrefixOf f.tag
theorem fieldsL_snoc (L : List Fld) (p : List UInt8) (k : Nat) (h : k < L.length) : fieldsL (L.take (k + 1)) p = fieldsL (L.take k) p ++ (if p.isPrefixOf (L.getD k fd0).tag = true then [L.getD k fd0] else []) := by
  rw [List.take_succ_eq_append_getElem h, List.getD_eq_getElem?_getD, List.getElem?_eq_getElem h]
  unfold fieldsL
  rw [List.filter_append]
  congr 1
  show _ = if p.isPrefixOf L[k].tag = true then [L[k]] else []
  by_cases hi : p.isPrefixOf L[k].tag = true
  · rw [if_pos hi]; simp [hi]
  · rw [if_neg hi]; simp [hi]
theorem fieldsL_length (L : List Fld) (p : List UInt8) : (fieldsL L p).length ≤ L.length := List.length_filter_le _ _
def insL (L : List Fld) (i : Nat) (f : Fld) : List Fld := L.take i ++ f :: L.drop i
def remL (L : List Fld) (i : Nat) : List Fld := L.take i ++ L.drop (i + 1)
def insR (r : Rec) (i : Int) (f : Fld) : Rec × Int :=
  if i < 0 ∨ (r.fields.length : Int) < i then (rec0, 2) else if rightI f ≠ 0 then (rec0, rightI f) else if 64 ≤ r.fields.length then (rec0, 13)
  else ({ r with fields := insL r.fields i.toNat f }, 0)
def remR (r : Rec) (i : Int) : Rec × Int :=
  if i < 0 ∨ (r.fields.length : Int) ≤ i then (rec0, 2) else ({ r with fields := remL r.fields i.toNat }, 0)
theorem insL_len (L : List Fld) (i : Nat) (f : Fld) (h : i ≤ L.length) : (insL L i f).length = L.length + 1 := by
  simp [insL, List.length_take, List.length_drop]; omega
theorem remL_len (L : List Fld) (i : Nat) (h : i < L.length) : (remL L i).length + 1 = L.length := by
  simp [remL, List.length_take, List.length_drop]; omega
theorem rem_ins (L : List Fld) (i : Nat) (f : Fld) (h : i ≤ L.length) : remL (insL L i f) i = L := by
  have h1 : (L.take i).length = i := by rw [List.length_take]; omega
  unfold remL insL
  have e : (L.take i ++ f :: L.drop i).drop (i + 1) = L.drop i := by
    rw [List.drop_append, h1, List.drop_of_length_le (by omega), show i + 1 - i = 1 by omega]
    rfl
  rw [e, List.take_append_of_le_length (by omega), List.take_of_length_le (by omega), List.take_append_drop]
theorem ins_rem (L : List Fld) (i : Nat) (h : i < L.length) : insL (remL L i) i (L.getD i fd0) = L := by
  have h1 : (L.take i).length = i := by rw [List.length_take]; omega
  unfold remL insL
  rw [List.take_append_of_le_length (by omega), List.take_of_length_le (by omega)]
  rw [show (L.take i ++ L.drop (i + 1)).drop i = L.drop (i + 1) by rw [List.drop_append_of_le_length (by omega), List.drop_of_length_le (by omega)]; rfl]
  rw [show L.getD i fd0 = L[i] by rw [List.getD_eq_getElem?_getD, List.getElem?_eq_getElem h]; rfl, ← List.drop_eq_getElem_cons h, List.take_append_drop]
theorem ins_at (L : List Fld) (i : Nat) (f : Fld) (h : i ≤ L.length) : (insL L i f).getD i fd0 = f := by
  have h1 : (L.take i).length = i := by rw [List.length_take]; omega
  unfold insL
  rw [List.getD_eq_getElem?_getD, List.getElem?_append_right (by omega), h1, Nat.sub_self]
  rfl
theorem mem_ins (L : List Fld) (i : Nat) (f g : Fld) (h : g ∈ insL L i f) : g = f ∨ g ∈ L := by
  unfold insL at h
  rcases List.mem_append.1 h with h | h
  · exact .inr (List.mem_of_mem_take h)
  · rcases List.mem_cons.1 h with h | h
    · exact .inl h
    · exact .inr (List.mem_of_mem_drop h)
theorem mem_rem (L : List Fld) (i : Nat) (g : Fld) (h : g ∈ remL L i) : g ∈ L := by
  unfold remL at h
  rcases List.mem_append.1 h with h | h
  · exact List.mem_of_mem_take h
  · exact List.mem_of_mem_drop h
end

section
open Go.RowKit
theorem dec1 (n : Nat) (h : n < 10) : Lib.decDigits n = [dgt n] := by rw [Lib.decDigits, dif_pos h]; rfl
theorem decS (n : Nat) (h : ¬ n < 10) : Lib.decDigits n = Lib.decDigits (n / 10) ++ [dgt (n % 10)] := by rw [Lib.decDigits, dif_neg h]; rfl
theorem dec_pos (n : Nat) : 0 < (Lib.decDigits n).length := by
  by_cases h : n < 10
  · rw [dec1 n h]; exact Nat.one_pos
  · rw [decS n h]; simp
theorem dec_bound : ∀ n, (Lib.decDigits n).length ≤ n + 1 := by
  intro n
  induction n using Nat.strongRecOn with
  | ind n ih =>
    by_cases h : n < 10
    · rw [dec1 n h]; simp
    · rw [decS n h]
      have := ih (n / 10) (by omega)
      simp
      omega
/-- Zeros in front, up to a width. -/
def padL (k : Nat) (l : List UInt8) : List UInt8 := List.replicate (k - l.length) 48 ++ l

theorem digit_at : ∀ r, r < 10 → (ByteArray.mk #[48, 49, 50, 51, 52, 53, 54, 55, 56, 57]).extract r (r + 1) = S [dgt r] := by decide +kernel
def strL : Value → Nat
  | .string s => s.size
  | _ => 0
def strZ : Value → Nat
  | .string s => if s.size = 0 then 1 else 0
  | _ => 0

set_option maxHeartbeats 8000000 in
set_option maxRecDepth 100000 in
theorem refDigits_any (n k : Nat) (hn : n ≤ 100000000) (hk : k ≤ 100) (w : World) :
    Calls Tryz.prog 43 #[.int .i64 (n : Int), .int .i64 (k : Int)] w fun e w' => e = .returned (.string (S (padL k (Lib.decDigits n)))) ∧ w' = w := by
  have hb := dec_bound n
  go_enter Tryz.func43, Tryz.ntmps43
  go_wp2
  go_loopw [0, 6] (fun v o wr => ∃ m l, v = .int .i64 (m : Nat) ∧ o = .string (S l) ∧ m ≤ n ∧ l.length ≤ (Lib.decDigits n).length ∧ ((l = [] ∧ m = n) ∨ (l ≠ [] ∧ m = 0 ∧ l = Lib.decDigits n) ∨ (l ≠ [] ∧ m ≠ 0 ∧ Lib.decDigits m ++ l = Lib.decDigits n)) ∧ wr = w) (fun v o _ => (intOf v).toNat + strZ o)
  case atStart => exact ⟨n, [], rfl, rfl, Nat.le_refl _, Nat.zero_le _, .inl ⟨rfl, rfl⟩, rfl⟩
  case round =>
    obtain ⟨m, l, rfl, rfl, hm, hl, hc, rfl⟩ := hrel
    have hsz : (S l).size ≤ 100000001 := by rw [S_size]; omega
    have r1 : Int.tmod (m : Int) 10 = ((m % 10 : Nat) : Int) := by rw [Int.tmod_eq_emod_of_nonneg (by omega)]; omega
    have r2 : (m : Int) % 10 = ((m % 10 : Nat) : Int) := by omega
    have q1 : Int.tdiv (m : Int) 10 = ((m / 10 : Nat) : Int) := by rw [Int.tdiv_eq_ediv_of_nonneg (by omega)]; omega
    have q2 : (m : Int) / 10 = ((m / 10 : Nat) : Int) := by omega
    have hr := digit_at (m % 10) (by omega)
    have hr9 : m % 10 ≤ 9 := by omega
    have hq9 : m / 10 ≤ 100000000 := by omega
    by_cases h0 : 0 < m
    · have d0 : decide ((0 : Int) < (m : Int)) = true := by simp; omega
      have HN : RowKit.Hid (∃ l', S [dgt (m % 10)] ++ S l = S l' ∧ l' ≠ [] ∧ l'.length ≤ (Lib.decDigits n).length ∧ ((m / 10 = 0 ∧ l' = Lib.decDigits n) ∨ (m / 10 ≠ 0 ∧ Lib.decDigits (m / 10) ++ l' = Lib.decDigits n))) := by
        refine ⟨_, S_append _ _, by simp, ?_, ?_⟩
        · have hx : Lib.decDigits m ++ l = Lib.decDigits n := by
            rcases hc with ⟨rfl, rfl⟩ | ⟨_, h1, _⟩ | ⟨_, _, h1⟩
            · simp
            · omega
            · exact h1
          rw [← hx, List.length_append]
          have := dec_pos m
          simp
          omega
        · have hx : Lib.decDigits m ++ l = Lib.decDigits n := by
            rcases hc with ⟨rfl, rfl⟩ | ⟨_, h1, _⟩ | ⟨_, _, h1⟩
            · simp
            · omega
            · exact h1
          by_cases h1 : m < 10
          · refine .inl ⟨by omega, ?_⟩
            rw [← hx, dec1 m h1, show m % 10 = m by omega]
          · refine .inr ⟨by omega, ?_⟩
            rw [← hx, decS m h1, List.append_assoc]
      have hms : RowKit.Hid (m / 10 < m) := by unfold RowKit.Hid; omega
      have HM := Lib.hid hm
      clear hc hm
      generalize m % 10 = r at r1 r2 hr hr9 HN
      generalize m / 10 = q at q1 q2 HN hms hq9
      have i0 : (0 : Int) ≤ (r : Int) := by omega
      have hz : (S [dgt r]).size = 1 := rfl
      have i1 : (r : Int) + 1 ≤ 10 := by omega
      have i2 : (r : Int) ≤ (r : Int) + 1 := by omega
      go_wp2
      go_roundw
      case rel =>
        obtain ⟨l', e1, e2, e3, e4⟩ := HN.out
        refine ⟨q, l', by go_num, ?_, by have := HM.out; have := hms.out; omega, e3, ?_, trivial⟩
        · rw [e1]
        · rcases e4 with ⟨h1, h2⟩ | ⟨h1, h2⟩
          · exact .inr (.inl ⟨e2, h1, h2⟩)
          · exact .inr (.inr ⟨e2, h1, h2⟩)
      case measure =>
        have := hms.out
        have e0 : (S [dgt r] ++ S l).size ≠ 0 := by rw [ByteArray.size_append, hz]; omega
        simp only [intOf, strZ, if_neg e0, Int.toNat_natCast]
        omega
    · have hm0 : m = 0 := by omega
      subst hm0
      have hr0 := digit_at 0 (by decide)
      by_cases hl0 : l = []
      · subst hl0
        have hn0 : n = 0 := by
          rcases hc with ⟨_, h⟩ | ⟨h, _⟩ | ⟨h, _⟩
          · exact h.symm
          · exact absurd rfl h
          · exact absurd rfl h
        have HN : RowKit.Hid ([dgt 0] = Lib.decDigits n) := by rw [hn0]; exact (dec1 0 (by decide)).symm
        clear hc hr hn0
        rw [show S [] = (⟨#[]⟩ : ByteArray) from rfl]
        go_wp2
        go_roundw
        case rel =>
          refine ⟨0, [dgt 0], rfl, ?_, Nat.zero_le _, ?_, .inr (.inl ⟨by simp, rfl, HN.out⟩), trivial⟩
          · first | rfl | trace_state
          · rw [← HN.out]; exact Nat.le_refl _
        case measure =>
          have e0 : (S [dgt 0] ++ (⟨#[]⟩ : ByteArray)).size ≠ 0 := by rw [ByteArray.size_append, show (S [dgt 0]).size = 1 from rfl]; omega
          simp only [strZ, if_neg e0]
          decide
      · have hd : l = Lib.decDigits n := by
          rcases hc with ⟨h, _⟩ | ⟨_, _, h⟩ | ⟨_, h, _⟩
          · exact absurd h hl0
          · exact h
          · exact absurd rfl h
        obtain ⟨f1, f2⟩ := S_facts l hl0
        have HD := Lib.hid hd
        clear hc hr hd hl0
        go_wp2
        go_loopw [6] (fun o wx => ∃ j, j ≤ k - l.length ∧ o = .string (S (List.replicate j 48 ++ l)) ∧ wx = wr) (fun o _ => k + 1 - strL o)
        case atStart => exact ⟨0, Nat.zero_le _, by rw [List.replicate_zero, List.nil_append], rfl⟩
        case round =>
          obtain ⟨j, hj, rfl, rfl⟩ := hrel
          have hz : (S (List.replicate j (48 : UInt8) ++ l)).size = j + l.length := by rw [S_size]; simp
          have HS : RowKit.Hid ((⟨#[48]⟩ : ByteArray) ++ S (List.replicate j (48 : UInt8) ++ l) = S (List.replicate (j + 1) 48 ++ l)) := S_append [48] _
          have HJ : RowKit.Hid (j = k - l.length → S (List.replicate j (48 : UInt8) ++ l) = S (padL k (Lib.decDigits n))) := by
            intro h
            unfold padL
            rw [h, ← HD.out]
          generalize S (List.replicate j (48 : UInt8) ++ l) = t at hz HS HJ
          have hll : l.length ≤ 100000001 := by omega
          by_cases h1 : j + l.length < k
          · have d1 : decide (((j + l.length : Nat) : Int) < (k : Int)) = true := by simp; omega
            go_wp2
            go_roundw
            case rel => exact ⟨j + 1, by omega, by rw [HS.out], trivial⟩
            case measure =>
              have e5 : ((⟨#[48]⟩ : ByteArray) ++ t).size = 1 + t.size := ByteArray.size_append
              simp only [strL, e5, hz]
              omega
          · have d1 : decide (((j + l.length : Nat) : Int) < (k : Int)) = false := by simp; omega
            go_wp2
            go_ret
            rw [HJ.out (by omega)]
            exact ⟨rfl, rfl⟩
end

end Go.Proofs.YtnfallkeicehiaaGreatDoor
