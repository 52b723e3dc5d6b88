/- Merged: R07I, R07J, RDigits, Plain07B, Al14. -/
import Derived.Test.YthjdopnoophigaaGreatDoorQ08
import Derived.Lib.Builder
import Derived.Test.YthjdopnoophigaaGreatDoorQ01
import Derived.Lib.ItoaNum
import Derived.Lib.Itoa
import Derived.Test.YthjdopnoophigaaGreatDoorQ10
import Derived.Test.YthjdopnoophigaaGreatDoorQ11
import Derived.Test.YthjdopnoophigaaGreatDoorQ18
namespace Go.Proofs.YthjdopnoophigaaGreatDoor

section
open Go.RowKit Go.PlainAid
def encS (s : Sub) : List Value := [.int .u8 (s.1.toNat : Int), .string (S s.2)]
def cellsL (L : List Sub) : List Value := L.flatMap encS
theorem cellsL_snoc (M : List Sub) (s : Sub) : cellsL (M ++ [s]) = cellsL M ++ encS s := by simp [cellsL]
theorem cellsL_at : ∀ (L : List Sub) (i : Nat), i < L.length → (cellsL L)[i * 2]? = some (.int .u8 ((L.getD i sub0).1.toNat : Int)) ∧ (cellsL L)[i * 2 + 1]? = some (.string (S (L.getD i sub0).2))
  | [], _, h => by cases h
  | s :: t, 0, _ => ⟨rfl, rfl⟩
  | s :: t, i + 1, h => by
    have := cellsL_at t i (by simpa using h)
    have e : cellsL (s :: t) = .int .u8 (s.1.toNat : Int) :: .string (S s.2) :: cellsL t := rfl
    rw [e, show (i + 1) * 2 = i * 2 + 1 + 1 by omega, List.getElem?_cons_succ, List.getElem?_cons_succ, List.getElem?_cons_succ, List.getElem?_cons_succ]
    exact this
/-- A row of subfields of the call's own, nil while it is empty. -/
theorem QL.of_row {B : Nat} {v : Value} {L : List Sub} {w : World} (h : w.ownsRow B 48 2 v L.length (cellsL L)) : QL v L w := by
  rcases h.2 with ⟨rfl, h0⟩ | ⟨g, cap, cur, rfl, hb, hg, hc, hm, hs, ht⟩
  · have : L = [] := List.eq_nil_of_length_eq_zero h0
    subst this
    exact ⟨none, 0, rfl, Nat.le_refl _, Nat.zero_le _, fun _ => rfl, fun i hi => by cases hi⟩
  · refine ⟨_, cap, rfl, hc, hm, (fun h => by cases h), fun i hi => ⟨g, 0, rfl, (Array.getElem?_eq_some_iff.1 hg).1, ?_, ?_⟩⟩
    · have := h.cells (g := g) rfl _ _ (cellsL_at L i hi).1
      have hadd : (⟨g, 0, none⟩ : Addr).add (i * 2) = ⟨g, i * 2, none⟩ := by unfold Addr.add; split <;> simp_all
      rw [hadd] at this
      rw [Nat.zero_add]
      exact this
    · have := h.cells (g := g) rfl _ _ (cellsL_at L i hi).2
      have hadd : (⟨g, 0, none⟩ : Addr).add (i * 2 + 1) = ⟨g, i * 2 + 1, none⟩ := by unfold Addr.add; split <;> simp_all
      rw [hadd] at this
      rw [Nat.zero_add]
      exact this
theorem own_setCell {w : World} {B e size n : Nat} {v : Value} {xs : List Value} (h : w.ownsRow B e size v n xs) {p : Addr} (hp : p.block < B) (u : Value) : (w.setCell p u).ownsRow B e size v n xs := by
  refine ⟨h.1, ?_⟩
  rcases h.2 with hn | ⟨g, cap, cur, hv, hB', hg, rest⟩
  · exact .inl hn
  · exact .inr ⟨g, cap, cur, hv, hB', (Below.heap_setCell _ _ _ _ (by omega)).trans hg, rest⟩
theorem infoSub : (Tryz.prog.info? 48).map (fun i => (i.zero, i.size, i.bytes)) = some (some (.agg #[.int .u8 0, .string ⟨#[]⟩]), 2, 24) := by kernel_rfl
theorem info_sub : ∃ i0, Tryz.prog.info? 48 = some i0 ∧ i0.zero = some (.agg #[.int .u8 0, .string ⟨#[]⟩]) ∧ i0.size = 2 ∧ i0.bytes = 24 := by
  obtain ⟨i0, h0, h2⟩ := Option.map_eq_some_iff.1 infoSub
  simp only [Prod.mk.injEq] at h2
  exact ⟨i0, h0, h2.1, h2.2.1, h2.2.2⟩
theorem cells_two (w : World) (x y : Value) (t : TypeId) : ∀ j u, [x, y][j]? = some u → (w.alloc (.cells #[x, y] t)).cell? ((⟨w.heap.size, 0, none⟩ : Addr).add j) = some u := by
  intro j u hj
  match j, hj with
  | 0, hj => simp at hj; subst hj; simp [Addr.add]
  | 1, hj => simp at hj; subst hj; simp [Addr.add]
  | (j + 2), hj => simp at hj

/-- What Set has made of the first k subfields, and whether the value has its place. -/
def setK (L : List Sub) (c : UInt8) (v : List UInt8) : Nat → List Sub × Bool
  | 0 => ([], decide (v = []))
  | k + 1 => if (L.getD k sub0).1 ≠ c then ((setK L c v k).1 ++ [L.getD k sub0], (setK L c v k).2)
    else if v = [] then setK L c v k else if (setK L c v k).2 = true then ((setK L c v k).1 ++ [L.getD k sub0], true) else ((setK L c v k).1 ++ [(c, v)], true)
def setR (L : List Sub) (c : UInt8) (v : List UInt8) : List Sub :=
  if (setK L c v L.length).2 = true then (setK L c v L.length).1 else (setK L c v L.length).1 ++ [(c, v)]
theorem setK_le (L : List Sub) (c : UInt8) (v : List UInt8) : ∀ k, (setK L c v k).1.length ≤ k
  | 0 => Nat.le_refl _
  | k + 1 => by
    have h := setK_le L c v k
    rw [setK]
    split
    · simp; omega
    · split
      · omega
      · split <;> simp <;> omega

theorem own_form {w : World} {B e size n : Nat} {v : Value} {xs : List Value} (h : w.ownsRow B e size v n xs) : ∃ ao cp, v = .slice ao n cp := by
  rcases h.2 with ⟨h0, h1⟩ | ⟨g, cap, cur, hv, _⟩
  · exact ⟨none, 0, by rw [h0, h1]⟩
  · exact ⟨_, cap, hv⟩
/-- What Set's last steps meet, and where they end. -/
theorem set_end {w W0 wz : World} {f : Fld} {u0 v : Value} {L : List Sub} (hlt : w.heap.size < W0.heap.size) (hlt1 : w.heap.size + 1 < W0.heap.size) (b0 : Below w.heap.size w W0)
    (hF : W0.heap[w.heap.size]? = some (.cells #[.string (S f.tag), .string (S f.ind), u0, .int .i64 f.auth] 24 (0, 0)))
    (hR : W0.heap[w.heap.size + 1]? = some (.cells #[.string ⟨#[]⟩, .string ⟨#[]⟩, .slice none 0 0, .int .i64 0] 24 (0, 0)))
    (hb : Below W0.heap.size W0 wz) (hown : wz.ownsRow W0.heap.size 48 2 v L.length (cellsL L)) :
    (wz.cell? ⟨w.heap.size, 0, none⟩ = some (.string (S f.tag)) ∧ wz.cell? ⟨w.heap.size, 1, none⟩ = some (.string (S f.ind)) ∧ wz.cell? ⟨w.heap.size, 2, none⟩ = some u0 ∧ wz.cell? ⟨w.heap.size, 3, none⟩ = some (.int .i64 f.auth)) ∧
    wz.frozen? ⟨w.heap.size, 2, none⟩ = false ∧
    (wz.cell? ⟨w.heap.size + 1, 0, none⟩ = some (.string ⟨#[]⟩) ∧ wz.cell? ⟨w.heap.size + 1, 1, none⟩ = some (.string ⟨#[]⟩) ∧ wz.cell? ⟨w.heap.size + 1, 2, none⟩ = some (.slice none 0 0) ∧ wz.cell? ⟨w.heap.size + 1, 3, none⟩ = some (.int .i64 0)) ∧
    (wz.frozen? ⟨w.heap.size + 1, 0, none⟩ = false ∧ wz.frozen? ⟨w.heap.size + 1, 1, none⟩ = false ∧ wz.frozen? ⟨w.heap.size + 1, 2, none⟩ = false ∧ wz.frozen? ⟨w.heap.size + 1, 3, none⟩ = false) ∧
    RowKit.Hid ((((((wz.setCell ⟨w.heap.size, 2, none⟩ v).setCell ⟨w.heap.size + 1, 0, none⟩ (.string (S f.tag))).setCell ⟨w.heap.size + 1, 1, none⟩ (.string (S f.ind))).setCell ⟨w.heap.size + 1, 2, none⟩ v).setCell ⟨w.heap.size + 1, 3, none⟩ (.int .i64 f.auth)).heap[w.heap.size + 1]? = some (.cells #[.string (S f.tag), .string (S f.ind), v, .int .i64 f.auth] 24 (0, 0))) ∧
    RowKit.Hid (QL v L (((((wz.setCell ⟨w.heap.size, 2, none⟩ v).setCell ⟨w.heap.size + 1, 0, none⟩ (.string (S f.tag))).setCell ⟨w.heap.size + 1, 1, none⟩ (.string (S f.ind))).setCell ⟨w.heap.size + 1, 2, none⟩ v).setCell ⟨w.heap.size + 1, 3, none⟩ (.int .i64 f.auth))) ∧ RowKit.Hid (Below w.heap.size w (((((wz.setCell ⟨w.heap.size, 2, none⟩ v).setCell ⟨w.heap.size + 1, 0, none⟩ (.string (S f.tag))).setCell ⟨w.heap.size + 1, 1, none⟩ (.string (S f.ind))).setCell ⟨w.heap.size + 1, 2, none⟩ v).setCell ⟨w.heap.size + 1, 3, none⟩ (.int .i64 f.auth))) := by
  have zF := (hb.block _ hlt).trans hF
  have zR := (hb.block _ hlt1).trans hR
  refine ⟨⟨?_, ?_, ?_, ?_⟩, Lib.frozen_of_heap zF 2, ⟨?_, ?_, ?_, ?_⟩, ⟨Lib.frozen_of_heap zR 0, Lib.frozen_of_heap zR 1, Lib.frozen_of_heap zR 2, Lib.frozen_of_heap zR 3⟩, ?_, ?_, ?_⟩
  · rw [Lib.cell_of_heap zF]; rfl
  · rw [Lib.cell_of_heap zF]; rfl
  · rw [Lib.cell_of_heap zF]; rfl
  · rw [Lib.cell_of_heap zF]; rfl
  · rw [Lib.cell_of_heap zR]; rfl
  · rw [Lib.cell_of_heap zR]; rfl
  · rw [Lib.cell_of_heap zR]; rfl
  · rw [Lib.cell_of_heap zR]; rfl
  · show (((((wz.setCell ⟨w.heap.size, 2, none⟩ v).setCell ⟨w.heap.size + 1, 0, none⟩ (.string (S f.tag))).setCell ⟨w.heap.size + 1, 1, none⟩ (.string (S f.ind))).setCell ⟨w.heap.size + 1, 2, none⟩ v).setCell ⟨w.heap.size + 1, 3, none⟩ (.int .i64 f.auth)).heap[w.heap.size + 1]? = _
    simp [World.setCell, Array.getElem?_modify, zR]
  · exact QL.of_row (own_setCell (own_setCell (own_setCell (own_setCell (own_setCell hown (p := ⟨w.heap.size, 2, none⟩) hlt _) (p := ⟨w.heap.size + 1, 0, none⟩) hlt1 _) (p := ⟨w.heap.size + 1, 1, none⟩) hlt1 _) (p := ⟨w.heap.size + 1, 2, none⟩) hlt1 _) (p := ⟨w.heap.size + 1, 3, none⟩) hlt1 _)
  · exact (((((b0.trans (hb.mono b0.size)).setCell (p := ⟨w.heap.size, 2, none⟩) (Nat.le_refl _) _).setCell (p := ⟨w.heap.size + 1, 0, none⟩) (Nat.le_succ _) _).setCell (p := ⟨w.heap.size + 1, 1, none⟩) (Nat.le_succ _) _).setCell (p := ⟨w.heap.size + 1, 2, none⟩) (Nat.le_succ _) _).setCell (p := ⟨w.heap.size + 1, 3, none⟩) (Nat.le_succ _) _
end

section
open Go.RowKit Go.PlainAid
def markB (c : UInt8) : List UInt8 := if c = 32 then [35] else [c]
end

section
open Go.RowKit
theorem dec1 (n : Nat) (h : n < 10) : Lib.decDigits n = [dgt n] := by rw [Lib.decDigits, dif_pos h]; rfl
theorem decS (n : Nat) (h : ¬ n < 10) : Lib.decDigits n = Lib.decDigits (n / 10) ++ [dgt (n % 10)] := by rw [Lib.decDigits, dif_neg h]; rfl
theorem dec_pos (n : Nat) : 0 < (Lib.decDigits n).length := by
  by_cases h : n < 10
  · rw [dec1 n h]; exact Nat.one_pos
  · rw [decS n h]; simp
theorem dec_bound : ∀ n, (Lib.decDigits n).length ≤ n + 1 := by
  intro n
  induction n using Nat.strongRecOn with
  | ind n ih =>
    by_cases h : n < 10
    · rw [dec1 n h]; simp
    · rw [decS n h]
      have := ih (n / 10) (by omega)
      simp
      omega
/-- Zeros in front, up to a width. -/
def padL (k : Nat) (l : List UInt8) : List UInt8 := List.replicate (k - l.length) 48 ++ l

theorem digit_at : ∀ r, r < 10 → (ByteArray.mk #[48, 49, 50, 51, 52, 53, 54, 55, 56, 57]).extract r (r + 1) = S [dgt r] := by decide +kernel
def strL : Value → Nat
  | .string s => s.size
  | _ => 0
def strZ : Value → Nat
  | .string s => if s.size = 0 then 1 else 0
  | _ => 0
end

section
theorem take_byte (l : List UInt8) (k : Nat) (h : k < l.length) : l.take (k + 1) = l.take k ++ [l.getD k 0] := by
  rw [List.take_succ_eq_append_getElem h, List.getD_eq_getElem?_getD, List.getElem?_eq_getElem h]
  rfl
/-- A value with each dollar twice. -/
def dblL : List UInt8 → List UInt8
  | [] => []
  | x :: t => if x = 36 then 36 :: 36 :: dblL t else x :: dblL t
theorem dblL_append : ∀ (a b : List UInt8), dblL (a ++ b) = dblL a ++ dblL b
  | [], b => rfl
  | x :: t, b => by
    rw [List.cons_append, dblL, dblL, dblL_append t b]
    split <;> rfl
theorem dblL_le : ∀ (a : List UInt8), (dblL a).length ≤ 2 * a.length
  | [] => Nat.le_refl _
  | x :: t => by
    have := dblL_le t
    rw [dblL]
    split <;> simp <;> omega
theorem dblL_snoc (l : List UInt8) (k : Nat) (h : k < l.length) : dblL (l.take (k + 1)) = dblL (l.take k) ++ (if l.getD k 0 = 36 then [36, 36] else [l.getD k 0]) := by
  rw [List.take_succ_eq_append_getElem h, List.getD_eq_getElem?_getD, List.getElem?_eq_getElem h, dblL_append]
  congr 1
def subP (s : Sub) : List UInt8 := 36 :: s.1 :: dblL s.2
def bodyL (L : List Sub) : List UInt8 := L.flatMap subP
theorem bodyL_snoc (L : List Sub) (k : Nat) (h : k < L.length) : bodyL (L.take (k + 1)) = bodyL (L.take k) ++ subP (L.getD k sub0) := by
  rw [List.take_succ_eq_append_getElem h, List.getD_eq_getElem?_getD, List.getElem?_eq_getElem h]
  unfold bodyL
  rw [List.flatMap_append]
  simp
def authP (n : Int) : List UInt8 := if n = 0 then [] else 64 :: padL 1 (Lib.decDigits n.toNat)
def headL (f : Fld) : List UInt8 := f.tag ++ authP f.auth ++ 32 :: (markB (f.ind.getD 0 0) ++ markB (f.ind.getD 1 0) ++ [32])
def lineL (f : Fld) : List UInt8 := headL f ++ bodyL f.subs
/-- What Print returns: the line, or the error. -/
def printR (f : Fld) : List UInt8 × Int := if rightI f = 0 then (lineL f, 0) else ([], rightI f)

theorem firstE_zero : ∀ (L : List Sub), firstE L = 0 → ∀ i, i < L.length → subE (L.getD i sub0) = 0
  | [], _, i, hi => by cases hi
  | s :: t, h, i, hi => by
    rw [firstE] at h
    by_cases h0 : subE s ≠ 0
    · rw [if_pos h0] at h
      exact absurd h h0
    · rw [if_neg h0] at h
      match i, hi with
      | 0, _ => exact Decidable.not_not.1 h0
      | i + 1, hi => exact firstE_zero t h i (by simpa using hi)
theorem subE_zero (s : Sub) (h : subE s = 0) : codeB s.1 = true ∧ s.2 ≠ [] ∧ validT s.2 = true ∧ s.2.length ≤ 200 := by
  unfold subE at h
  cases hc : codeB s.1
  · rw [if_pos hc] at h; cases h
  · rw [if_neg (by rw [hc]; intro h; cases h)] at h
    by_cases h1 : s.2 = []
    · rw [if_pos h1] at h; cases h
    · rw [if_neg h1] at h
      cases hv : validT s.2
      · rw [if_pos hv] at h; cases h
      · rw [if_neg (by rw [hv]; intro h; cases h)] at h
        by_cases h2 : 200 < s.2.length
        · rw [if_pos h2] at h; cases h
        · exact ⟨rfl, h1, rfl, by omega⟩
theorem right_facts (f : Fld) (h : rightI f = 0) : tagB f.tag = true ∧ indsB f.ind = true ∧ 0 < f.subs.length ∧ f.subs.length ≤ 16 ∧ (∀ i, i < f.subs.length → subE (f.subs.getD i sub0) = 0) ∧ 0 ≤ f.auth ∧ f.auth ≤ 9999 := by
  unfold rightI at h
  cases ht : tagB f.tag
  · rw [if_pos ht] at h; cases h
  rw [if_neg (by rw [ht]; intro h; cases h)] at h
  cases hi : indsB f.ind
  · rw [if_pos hi] at h; cases h
  rw [if_neg (by rw [hi]; intro h; cases h)] at h
  by_cases h0 : f.subs.length = 0
  · rw [if_pos h0] at h; cases h
  rw [if_neg h0] at h
  by_cases h16 : 16 < f.subs.length
  · rw [if_pos h16] at h; cases h
  rw [if_neg h16] at h
  by_cases hf : firstE f.subs ≠ 0
  · rw [if_pos hf] at h
    exact absurd h hf
  rw [if_neg hf] at h
  by_cases ha : f.auth < 0 ∨ 9999 < f.auth
  · rw [if_pos ha] at h; cases h
  exact ⟨rfl, rfl, by omega, by omega, firstE_zero _ (Decidable.not_not.1 hf), by omega, by omega⟩
theorem tagB_len (l : List UInt8) (h : tagB l = true) : l.length = 3 := by
  unfold tagB at h
  simp at h
  omega
theorem indsB_len (l : List UInt8) (h : indsB l = true) : l.length = 2 := by
  unfold indsB at h
  simp at h
  omega
theorem bodyL_le : ∀ (L : List Sub), (∀ i, i < L.length → (L.getD i sub0).2.length ≤ 200) → (bodyL L).length ≤ 402 * L.length
  | [], _ => Nat.le_refl _
  | s :: t, h => by
    have h0 := h 0 (by simp)
    have h1 := bodyL_le t (fun i hi => h (i + 1) (by simpa using hi))
    have h2 := dblL_le s.2
    change s.2.length ≤ 200 at h0
    have e : bodyL (s :: t) = subP s ++ bodyL t := by simp [bodyL]
    rw [e, List.length_append, List.length_cons]
    unfold subP
    rw [List.length_cons, List.length_cons]
    omega
end

section
def fP14 : Fld := ⟨[49, 48, 48], [49, 32], [(97, [83, 109, 105, 116, 104, 44, 32, 65, 110, 110]), (100, [49, 57, 53, 48, 45]), (52, [97, 117, 116])], 0⟩
def fS14 : Fld := ⟨[54, 53, 48], [32, 48], [(97, [68, 111, 103, 115]), (120, [72, 105, 115, 116, 111, 114, 121])], 0⟩
def fH14 : Fld := ⟨[54, 53, 48], [32, 48], [(97, [104, 111, 117, 110, 100, 115])], 0⟩
def fL14 : Fld := { fH14 with auth := 7 }
def fD14 : Fld := { fL14 with subs := [(97, [68, 111, 103, 115])] }
def hP14 : List UInt8 := [76, 101, 101, 44, 32, 66, 111, 44, 32, 49, 57, 54, 48, 45]
def hS14 : List UInt8 := [67, 97, 116, 115, 45, 45, 67, 97, 114, 101, 45, 45, 71, 101, 114, 109, 97, 110, 121]
def pP14 : Fld := { fP14 with subs := [(97, [76, 101, 101, 44, 32, 66, 111]), (100, [49, 57, 54, 48, 45]), (52, [97, 117, 116])] }
def pS14 : Fld := { fS14 with subs := [(97, [67, 97, 116, 115]), (120, [67, 97, 114, 101]), (120, [71, 101, 114, 109, 97, 110, 121])] }
def a14 : Au := ⟨7, 3, [68, 111, 103, 115], [[72, 111, 117, 110, 100, 115]], []⟩
def l14 : List Au := [a14]
theorem ex_kind1 : kindX [49, 48, 48] = 1 := by decide +kernel
theorem ex_kind3 : kindX [54, 53, 48] = 3 := by decide +kernel
theorem ex_kind0 : kindX [50, 52, 53] = 0 := by decide +kernel
theorem ex_headP : headX fP14 = [83, 109, 105, 116, 104, 44, 32, 65, 110, 110, 44, 32, 49, 57, 53, 48, 45] := by decide +kernel
theorem ex_headS : headX fS14 = [68, 111, 103, 115, 45, 45, 72, 105, 115, 116, 111, 114, 121] := by decide +kernel
theorem ex_putP : putX fP14 hP14 = pP14 := by
  unfold putX
  rw [show putU (kindX fP14.tag) fP14.subs hP14 = pP14.subs by decide +kernel]
  rfl
theorem ex_putS : putX fS14 hS14 = pS14 := by
  unfold putX
  rw [show putU (kindX fS14.tag) fS14.subs hS14 = pS14.subs by decide +kernel]
  rfl
theorem ex_printP : printR pP14 = ([49, 48, 48, 32, 49, 35, 32, 36, 97, 76, 101, 101, 44, 32, 66, 111, 36, 100, 49, 57, 54, 48, 45, 36, 52, 97, 117, 116], 0) := by decide +kernel
theorem ex_printS : printR pS14 = ([54, 53, 48, 32, 35, 48, 32, 36, 97, 67, 97, 116, 115, 36, 120, 67, 97, 114, 101, 36, 120, 71, 101, 114, 109, 97, 110, 121], 0) := by decide +kernel
theorem ex_right14 : rightA l14 = 0 := by decide +kernel
theorem ex_bnd14 : bnd l14 := small_bnd l14 (by decide +kernel)
theorem ex_headH : headX fH14 = [104, 111, 117, 110, 100, 115] := by decide +kernel
theorem ex_find14 : findA l14 3 [104, 111, 117, 110, 100, 115] = (7, false, true) := by decide +kernel
theorem ex_link : linkX l14 fH14 = fL14 := by
  unfold linkX
  rw [show kindX fH14.tag = 3 from ex_kind3, ex_headH, ex_find14]
  rw [show looseX fH14 = true by decide +kernel]
  rfl
theorem ex_headL : headX fL14 = [104, 111, 117, 110, 100, 115] := by decide +kernel
theorem ex_putD : putX fL14 [68, 111, 103, 115] = fD14 := by
  unfold putX
  rw [show putU (kindX fL14.tag) fL14.subs [68, 111, 103, 115] = fD14.subs by decide +kernel]
  rfl
theorem ex_follow : followX l14 fL14 = fD14 := by
  unfold followX
  rw [show getA l14 fL14.auth = some a14 from rfl]
  show (if (true = true) then _ else _) = _
  rw [if_pos rfl]
  show (if (a14.kind = kindX fL14.tag) then _ else _) = _
  rw [if_pos (show a14.kind = kindX fL14.tag from ex_kind3.symm)]
  show (if a14.heading = headX fL14 then _ else _) = _
  rw [if_neg (by rw [ex_headL]; decide)]
  exact ex_putD
theorem ex_headD : headX fD14 = [68, 111, 103, 115] := by decide +kernel
theorem ex_loose : looseL [fH14] 0 = [0] := by
  unfold looseL
  rw [show looseX fH14 = true by decide +kernel]
  rfl
theorem ok_small (f : Fld) (h1 : f.subs.length ≤ 20) (h2 : ∀ s ∈ f.subs, s.2.length ≤ 300) : okF f := ⟨by omega, fun s hs => Nat.le_trans (h2 s hs) (by decide)⟩
end

end Go.Proofs.YthjdopnoophigaaGreatDoor
