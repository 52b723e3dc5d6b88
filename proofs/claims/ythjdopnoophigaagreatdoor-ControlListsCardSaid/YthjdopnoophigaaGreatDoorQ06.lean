/- Merged: TL09, UA09, UB09, UC09, UD09. -/
import Derived.Test.YthjdopnoophigaaGreatDoorQ05
import Derived.Test.YthjdopnoophigaaGreatDoorQ01
import Derived.Laws.AppendOwn
import Derived.OwnWalk
import Derived.Laws.AppendOwnNone
import Derived.Lib.Bytealg
import Derived.Test.YthjdopnoophigaaGreatDoorProg
import Derived.Lib.Hide
import Derived.BigQuiet
import Derived.Laws.Cover1
import Derived.Deep.CutRange
import Derived.Deep.DeepCutAuto
import Derived.Lib.Builder
namespace Go.Proofs.YthjdopnoophigaaGreatDoor

section
open Go.RowKit
/-- What lies at one rule's place. -/
structure RuAt (g o : Nat) (t : Rul) (w : World) : Prop where
  c0 : w.cell? ⟨g, o, none⟩ = some (.string (S t.tag))
  c1 : w.cell? ⟨g, o + 1, none⟩ = some (.bool t.rep)
  c2 : w.cell? ⟨g, o + 2, none⟩ = some (.bool t.must)
  c3 : w.cell? ⟨g, o + 3, none⟩ = some (.string (S t.codes))
  c4 : w.cell? ⟨g, o + 4, none⟩ = some (.string (S t.once))
  c5 : w.cell? ⟨g, o + 5, none⟩ = some (.string (S t.needs))
  c6 : w.cell? ⟨g, o + 6, none⟩ = some (.int .i64 t.auth)
theorem RuAt.after {g o : Nat} {t : Rul} {w w' : World} (h : RuAt g o t w) (hg : g < w.heap.size) (hb : Below w.heap.size w w') : RuAt g o t w' :=
  ⟨(hb.cell (p := ⟨g, o, none⟩) hg).trans h.c0, (hb.cell (p := ⟨g, o + 1, none⟩) hg).trans h.c1, (hb.cell (p := ⟨g, o + 2, none⟩) hg).trans h.c2, (hb.cell (p := ⟨g, o + 3, none⟩) hg).trans h.c3,
    (hb.cell (p := ⟨g, o + 4, none⟩) hg).trans h.c4, (hb.cell (p := ⟨g, o + 5, none⟩) hg).trans h.c5, (hb.cell (p := ⟨g, o + 6, none⟩) hg).trans h.c6⟩
/-- A rule's value. -/
def UV (t : Rul) : Value := .agg #[.string (S t.tag), .bool t.rep, .bool t.must, .string (S t.codes), .string (S t.once), .string (S t.needs), .int .i64 t.auth]
/-- A slice of these rules. -/
def TL (v : Value) (L : List Rul) (w : World) : Prop :=
  ∃ a cap, v = .slice a L.length cap ∧ L.length ≤ cap ∧ cap ≤ maxLen ∧ (a = none → cap = 0) ∧ ∀ i, i < L.length → ∃ g o, a = some ⟨g, o, none⟩ ∧ g < w.heap.size ∧ RuAt g (o + i * 7) (L.getD i rul0) w
theorem TL.after {v : Value} {L : List Rul} {w w' : World} (h : TL v L w) (hb : Below w.heap.size w w') : TL v L w' := by
  obtain ⟨a, cap, rfl, hc, hm, hn, hx⟩ := h
  refine ⟨a, cap, rfl, hc, hm, hn, fun i hi => ?_⟩
  obtain ⟨g, o, rfl, hg, h0⟩ := hx i hi
  exact ⟨g, o, rfl, Nat.lt_of_lt_of_le hg hb.size, h0.after hg hb⟩
theorem TL.length {v : Value} {L : List Rul} {w : World} (h : TL v L w) : ∃ a cap, v = .slice a L.length cap ∧ L.length ≤ cap ∧ cap ≤ maxLen := by
  obtain ⟨a, cap, h1, h2, h3, _⟩ := h
  exact ⟨a, cap, h1, h2, h3⟩
theorem TL.at {v : Value} {L : List Rul} {w : World} (h : TL v L w) (k : Nat) (hk : k < L.length) : ∃ g o cap, v = .slice (some ⟨g, o, none⟩) L.length cap ∧ g < w.heap.size ∧ RuAt g (o + k * 7) (L.getD k rul0) w := by
  obtain ⟨a, cap, rfl, hc, hm, hn, hx⟩ := h
  obtain ⟨g, o, rfl, hh⟩ := hx k hk
  exact ⟨g, o, cap, rfl, hh⟩
theorem TL.nil (w : World) : TL (.slice none 0 0) [] w := ⟨none, 0, rfl, Nat.le_refl _, Nat.zero_le _, fun _ => rfl, fun i hi => by cases hi⟩

/-! Problems. -/
def encP (p : Prb) : List Value := [.int .i64 p.kind, .int .i64 p.index, .string (S p.tag), .int .u8 (p.code.toNat : Int)]
def cellsP : List Prb → List Value
  | [] => []
  | p :: t => encP p ++ cellsP t
theorem cellsP_app : ∀ L M : List Prb, cellsP (L ++ M) = cellsP L ++ cellsP M
  | [], M => rfl
  | a :: s, M => by simp only [List.cons_append, cellsP, cellsP_app s M, List.append_assoc]
theorem cellsP_length : ∀ L : List Prb, (cellsP L).length = L.length * 4
  | [] => rfl
  | f :: t => by
    simp only [cellsP, List.length_append, cellsP_length t, encP, List.length_cons, List.length_nil]
    omega
theorem cellsP_at : ∀ (L : List Prb) (i : Nat), i < L.length → (cellsP L)[i * 4]? = some (.int .i64 (L.getD i prb0).kind) ∧ (cellsP L)[i * 4 + 1]? = some (.int .i64 (L.getD i prb0).index) ∧
    (cellsP L)[i * 4 + 2]? = some (.string (S (L.getD i prb0).tag)) ∧ (cellsP L)[i * 4 + 3]? = some (.int .u8 ((L.getD i prb0).code.toNat : Int))
  | [], _, h => by cases h
  | a :: s, 0, _ => ⟨rfl, rfl, rfl, rfl⟩
  | a :: s, i + 1, h => by
    have := cellsP_at s i (by simpa using h)
    have e : cellsP (a :: s) = .int .i64 a.kind :: .int .i64 a.index :: .string (S a.tag) :: .int .u8 (a.code.toNat : Int) :: cellsP s := rfl
    rw [e, show (i + 1) * 4 = i * 4 + 1 + 1 + 1 + 1 by omega]
    simp only [List.getElem?_cons_succ]
    exact this
theorem cellsP_one : ∀ (L : List Prb), ∀ u ∈ cellsP L, u.oneCell' = true
  | [], u, hu => by simp [cellsP] at hu
  | f :: t, u, hu => by
    simp only [cellsP, List.mem_append, encP, List.mem_cons, List.not_mem_nil, or_false] at hu
    rcases hu with (rfl | rfl | rfl | rfl) | hu
    · rfl
    · rfl
    · rfl
    · rfl
    · exact cellsP_one t u hu
/-- What lies at one problem's place. -/
structure PrAt (g o : Nat) (p : Prb) (w : World) : Prop where
  c0 : w.cell? ⟨g, o, none⟩ = some (.int .i64 p.kind)
  c1 : w.cell? ⟨g, o + 1, none⟩ = some (.int .i64 p.index)
  c2 : w.cell? ⟨g, o + 2, none⟩ = some (.string (S p.tag))
  c3 : w.cell? ⟨g, o + 3, none⟩ = some (.int .u8 (p.code.toNat : Int))
theorem PrAt.after {g o : Nat} {t : Prb} {w w' : World} (h : PrAt g o t w) (hg : g < w.heap.size) (hb : Below w.heap.size w w') : PrAt g o t w' :=
  ⟨(hb.cell (p := ⟨g, o, none⟩) hg).trans h.c0, (hb.cell (p := ⟨g, o + 1, none⟩) hg).trans h.c1, (hb.cell (p := ⟨g, o + 2, none⟩) hg).trans h.c2, (hb.cell (p := ⟨g, o + 3, none⟩) hg).trans h.c3⟩
/-- A problem's value. -/
def PV (p : Prb) : Value := .agg #[.int .i64 p.kind, .int .i64 p.index, .string (S p.tag), .int .u8 (p.code.toNat : Int)]
/-- A slice of these problems. -/
def PL (v : Value) (L : List Prb) (w : World) : Prop :=
  ∃ a cap, v = .slice a L.length cap ∧ L.length ≤ cap ∧ cap ≤ maxLen ∧ (a = none → cap = 0) ∧ ∀ i, i < L.length → ∃ g o, a = some ⟨g, o, none⟩ ∧ g < w.heap.size ∧ PrAt g (o + i * 4) (L.getD i prb0) w
theorem PL.after {v : Value} {L : List Prb} {w w' : World} (h : PL v L w) (hb : Below w.heap.size w w') : PL v L w' := by
  obtain ⟨a, cap, rfl, hc, hm, hn, hx⟩ := h
  refine ⟨a, cap, rfl, hc, hm, hn, fun i hi => ?_⟩
  obtain ⟨g, o, rfl, hg, h0⟩ := hx i hi
  exact ⟨g, o, rfl, Nat.lt_of_lt_of_le hg hb.size, h0.after hg hb⟩
theorem PL.length {v : Value} {L : List Prb} {w : World} (h : PL v L w) : ∃ a cap, v = .slice a L.length cap ∧ L.length ≤ cap ∧ cap ≤ maxLen := by
  obtain ⟨a, cap, h1, h2, h3, _⟩ := h
  exact ⟨a, cap, h1, h2, h3⟩
theorem PL.at {v : Value} {L : List Prb} {w : World} (h : PL v L w) (k : Nat) (hk : k < L.length) : ∃ g o cap, v = .slice (some ⟨g, o, none⟩) L.length cap ∧ g < w.heap.size ∧ PrAt g (o + k * 4) (L.getD k prb0) w := by
  obtain ⟨a, cap, rfl, hc, hm, hn, hx⟩ := h
  obtain ⟨g, o, rfl, hh⟩ := hx k hk
  exact ⟨g, o, cap, rfl, hh⟩
/-- Nothing, or these cells at an address: what is appended. -/
theorem PL.none_or {v : Value} {L : List Prb} {w : World} (h : PL v L w) : (v = .slice none 0 0 ∧ L = []) ∨ ∃ ad cap, v = .slice (some ad) L.length cap ∧ L.length ≤ cap ∧ cap ≤ maxLen ∧ ∀ j u, (cellsP L)[j]? = some u → w.cell? (ad.add j) = some u := by
  obtain ⟨a, cap, rfl, hc, hm, hn, hx⟩ := h
  cases a with
  | none =>
    obtain rfl := hn rfl
    have hl : L = [] := List.eq_nil_of_length_eq_zero (by omega)
    subst hl
    exact .inl ⟨rfl, rfl⟩
  | some ad =>
    refine .inr ⟨ad, cap, rfl, hc, hm, fun j u hj => ?_⟩
    have hjl : j < L.length * 4 := by
      have := (List.getElem?_eq_some_iff.1 hj).1
      rwa [cellsP_length] at this
    obtain ⟨g, o, he, _, hcell⟩ := hx (j / 4) (by omega)
    obtain rfl := Option.some.inj he
    have hat := cellsP_at L (j / 4) (by omega)
    have hadd : (⟨g, o, none⟩ : Addr).add j = ⟨g, o + j, none⟩ := by unfold Addr.add; split <;> simp_all
    rw [hadd]
    obtain ⟨h0, h1, h2, h3⟩ := hcell
    have hq : j = j / 4 * 4 + j % 4 := by omega
    have hr : j % 4 < 4 := by omega
    generalize j / 4 = q at *
    generalize j % 4 = r at *
    subst hq
    rw [show o + (q * 4 + r) = o + q * 4 + r by omega]
    match r, hr with
    | 0, _ => rw [Nat.add_zero] at hj ⊢; rw [hat.1] at hj; rw [h0]; exact hj
    | 1, _ => rw [hat.2.1] at hj; rw [h1]; exact hj
    | 2, _ => rw [hat.2.2.1] at hj; rw [h2]; exact hj
    | 3, _ => rw [hat.2.2.2] at hj; rw [h3]; exact hj
end

section
open Go.RowKit Go.PlainAid
def letB9 (x : UInt8) : Bool := decide (97 ≤ x.toNat) && decide (x.toNat ≤ 122)
theorem codeB_eq9 (x : UInt8) : codeB x = (digB x || letB9 x) := rfl

theorem index_in9 (c : UInt8) (l : List UInt8) : decide (0 ≤ Lib.indexByte l c) = l.any (fun x => decide (x = c)) := by
  induction l with
  | nil => rfl
  | cons b l ih =>
    have hg := Lib.indexByte_ge l c
    rw [Lib.indexByte, List.any_cons]
    by_cases h : b = c
    · rw [if_pos (by rw [h]; simp), decide_eq_true h, Bool.true_or]
      rfl
    · rw [if_neg (by simpa using h), decide_eq_false h, Bool.false_or, ← ih]
      by_cases h1 : Lib.indexByte l c = -1
      · rw [if_pos (by rw [h1]; rfl), h1]
      · rw [if_neg (by simpa using h1), decide_eq_decide]
        omega

theorem index_has (c : UInt8) (l : List UInt8) : decide (0 ≤ Lib.indexByte l c) = hasB l c := index_in9 c l
end

section
open Go.RowKit Go.PlainAid
theorem below_drawn9 (a w : World) (n : Nat) (h : Below a.heap.size a w) : Below a.heap.size a (w.drewN n) := h.trans ⟨rfl, rfl, rfl, Nat.le_refl _, fun _ _ => rfl⟩
/-- A text of three digits or so, against 010. -/
theorem less_three9 (l : List UInt8) (h3 : l.length = 3) (h0 : 48 ≤ (l.getD 0 0).toNat) (h1 : 48 ≤ (l.getD 1 0).toNat) (h2 : 48 ≤ (l.getD 2 0).toNat) : Op.bytesLess l [48, 49, 48] = (decide (l.getD 0 0 = 48) && decide (l.getD 1 0 = 48)) := by
  match l, h3 with
  | [a, b, c], _ =>
    have g0 : 48 ≤ a.toNat := h0
    have g1 : 48 ≤ b.toNat := h1
    have g2 : 48 ≤ c.toNat := h2
    have na : ¬ a < 48 := fun k => by have := UInt8.lt_iff_toNat_lt.1 k; simp at this; omega
    have nc : ¬ c < 48 := fun k => by have := UInt8.lt_iff_toNat_lt.1 k; simp at this; omega
    have nb : (b < 49) ↔ b = 48 := by
      rw [UInt8.lt_iff_toNat_lt, ← UInt8.toNat_inj]
      simp
      omega
    show (decide (a < 48) || (a == 48 && (decide (b < 49) || (b == 49 && (decide (c < 48) || (c == 48 && false)))))) = _
    rw [decide_eq_false na, decide_eq_false nc]
    simp [nb]
    rw [show (a == 48) = decide (a = 48) from rfl]
theorem tag_bad (l : List UInt8) (k : Nat) (hk : k < l.length) (h : digB (l.getD k 0) = false) : tagB l = false := by
  unfold tagB
  by_cases h3 : l.length = 3
  · rw [h3] at hk
    match k, hk, h with
    | 0, _, h => rw [h]; simp
    | 1, _, h => rw [h]; simp
    | 2, _, h => rw [h]; simp
  · rw [decide_eq_false h3]; simp
theorem tag_all (l : List UInt8) (h3 : l.length = 3) (h : ∀ j, j < l.length → digB (l.getD j 0) = true) : Op.bytesLess l [48, 49, 48] = !(tagB l) := by
  have g0 := h 0 (by omega)
  have g1 := h 1 (by omega)
  have g2 := h 2 (by omega)
  rw [less_three9 l h3 ((digB_iff _).1 g0).1 ((digB_iff _).1 g1).1 ((digB_iff _).1 g2).1]
  unfold tagB
  rw [g0, g1, g2, decide_eq_true h3]
  simp
theorem tag_long (l : List UInt8) (h3 : l.length ≠ 3) : tagB l = false := by
  unfold tagB
  rw [decide_eq_false h3]
  simp
end

section
open Go.RowKit Go.PlainAid
theorem codeAt_zero (l : List UInt8) : codeAt l 0 = (digB (l.getD 0 0) || letB9 (l.getD 0 0)) := by
  unfold codeAt
  rw [decide_eq_true rfl, Bool.true_or, Bool.and_true]
  rfl
theorem codeAt_succ (l : List UInt8) (m : Nat) : codeAt l (m + 1) = ((digB (l.getD (m + 1) 0) || letB9 (l.getD (m + 1) 0)) && !(decide (((l.getD (m + 1) 0).toNat : Int) ≤ ((l.getD m 0).toNat : Int)))) := by
  unfold codeAt
  rw [decide_eq_false (Nat.succ_ne_zero m), Bool.false_or, Nat.add_sub_cancel]
  congr 1
  rw [← decide_not, decide_eq_decide]
  omega
end

section
open Go.RowKit Go.PlainAid
/-- A rule in its box. -/
structure UB (b : Nat) (t : Rul) (W : World) : Prop where
  bx : W.heap[b]? = some (.cells #[.string (S t.tag), .bool t.rep, .bool t.must, .string (S t.codes), .string (S t.once), .string (S t.needs), .int .i64 t.auth] 74 (0, 0))
theorem UB.lt {b : Nat} {t : Rul} {W : World} (h : UB b t W) : b < W.heap.size := (Array.getElem?_eq_some_iff.1 h.bx).1
theorem UB.after {b : Nat} {t : Rul} {W W' : World} (h : UB b t W) (hb : Below W.heap.size W W') : UB b t W' := ⟨(hb.block _ h.lt).trans h.bx⟩
theorem UB.new (t : Rul) (w : World) : UB w.heap.size t (w.alloc (.cells #[.string (S t.tag), .bool t.rep, .bool t.must, .string (S t.codes), .string (S t.once), .string (S t.needs), .int .i64 t.auth] 74)) := ⟨heap_alloc_new w _⟩
theorem UB.cells {b : Nat} {t : Rul} {W : World} (h : UB b t W) : W.cell? ⟨b, 0, none⟩ = some (.string (S t.tag)) ∧ W.cell? ⟨b, 1, none⟩ = some (.bool t.rep) ∧ W.cell? ⟨b, 2, none⟩ = some (.bool t.must) ∧ W.cell? ⟨b, 3, none⟩ = some (.string (S t.codes)) ∧
    W.cell? ⟨b, 4, none⟩ = some (.string (S t.once)) ∧ W.cell? ⟨b, 5, none⟩ = some (.string (S t.needs)) ∧ W.cell? ⟨b, 6, none⟩ = some (.int .i64 t.auth) := by
  refine ⟨?_, ?_, ?_, ?_, ?_, ?_, ?_⟩ <;> (rw [Lib.cell_of_heap h.bx]; rfl)
theorem S_empty9 (l : List UInt8) (q : Bool) (h : decide (l = []) = q) : (S l).toList.isEmpty = q ∧ ((S l).toList == []) = q := by
  have h2 : (S l).toList = l := by
    rw [ByteArray.toList_eq]; rfl
  rw [h2, ← h]
  cases l <;> simp
theorem S_less (a b : List UInt8) : Op.bytesLess (S a).toList (S b).toList = Op.bytesLess a b := by
  have h : ∀ l, (S l).toList = l := fun l => by rw [ByteArray.toList_eq]; rfl
  rw [h, h]
theorem le_bits (a b : List UInt8) : (leB a b = false ∧ Op.bytesLess (S a).toList (S b).toList = false ∧ ((S a).toList == (S b).toList) = false) ∨ (leB a b = true ∧ Op.bytesLess (S a).toList (S b).toList = true) ∨
    (leB a b = true ∧ Op.bytesLess (S a).toList (S b).toList = false ∧ ((S a).toList == (S b).toList) = true) := by
  have h : ∀ l, (S l).toList = l := fun l => by rw [ByteArray.toList_eq]; rfl
  rw [h, h]
  unfold leB
  cases Op.bytesLess a b <;> cases (a == b) <;> simp
theorem errR_eq (before : List UInt8) (t : Rul) : errR false before t = if tagB t.tag = false then 6 else if leB t.tag before = true then 7 else if decide (t.codes = []) = true then 3 else if codesB t.codes = false then 3 else if choiceB t.once t.codes = false then 3 else if choiceB t.needs t.codes = false then 3 else if t.auth < 0 ∨ 4 < t.auth then 1 else 0 := by
  unfold errR formB choiceB
  by_cases h : t.codes = []
  · simp [h]
  · cases codesB t.codes <;> cases codesB t.once <;> cases codesB t.needs <;> cases withinB t.codes t.once <;> cases withinB t.codes t.needs <;> simp [h]
theorem errR_first (a : List UInt8) (t : Rul) : errR true a t = errR false [] t := by
  unfold errR
  by_cases h : tagB t.tag = false
  · rw [if_pos h, if_pos h]
  · have : leB t.tag [] = false := by
      unfold leB
      match e : t.tag with
      | [] => rw [e] at h; exact absurd rfl h
      | x :: r => rfl
    simp [this]

/-- The tag behind which a rule stands. -/
def befL (l : List Rul) : Nat → List UInt8
  | 0 => []
  | k + 1 => (l.getD k rul0).tag
theorem errAt_bef (l : List Rul) (k : Nat) : errAt l k = errR false (befL l k) (l.getD k rul0) := by
  unfold errAt
  cases k with
  | zero => rw [decide_eq_true rfl, errR_first]; rfl
  | succ m => rw [decide_eq_false (Nat.succ_ne_zero m), Nat.add_sub_cancel]; rfl
/-- Texts of bounded length. -/
def smallT (t : Rul) : Prop := t.tag.length ≤ 1000000 ∧ t.codes.length ≤ 1000000 ∧ t.once.length ≤ 1000000 ∧ t.needs.length ≤ 1000000
end

end Go.Proofs.YthjdopnoophigaaGreatDoor
