/- Merged: R07O, R07P0, R07P. -/
import Derived.Test.YtnfallkeicehiaaDoorQ15
import Derived.Test.YtnfallkeicehiaaDoorQ09
namespace Go.Proofs.YtnfallkeicehiaaDoor

section
open Go.RowKit Go.PlainAid
theorem drop_at (s : List UInt8) (p : Nat) (h : p < s.length) : s.drop p = s.getD p 0 :: s.drop (p + 1) := by
  rw [List.drop_eq_getElem_cons h, List.getD_eq_getElem?_getD, List.getElem?_eq_getElem h]
  rfl
theorem getD_drop (s : List UInt8) (p j : Nat) : (s.drop p).getD j 0 = s.getD (p + j) 0 := by
  simp [List.getD_eq_getElem?_getD]
theorem subs_more : ∀ (k k' : Nat) (l : List UInt8), l.length ≤ k → l.length ≤ k' → subsF k l = subsF k' l
  | k, k', [], _, _ => by cases k <;> cases k' <;> rfl
  | 0, _, _ :: _, h, _ => by simp at h
  | _ + 1, 0, _ :: _, _, h => by simp at h
  | k + 1, k' + 1, [_], _, _ => rfl
  | k + 1, k' + 1, c :: d :: t, h, h' => by
    have h1 := valL_le t
    rw [subsF, subsF]
    split
    · rfl
    · rw [subs_more k k' (valL t).2 (by simp at h; omega) (by simp at h'; omega)]
theorem subs_bad (s : List UInt8) (k p : Nat) (hk : s.length ≤ k) (hp : p < s.length) (h : s.getD p 0 ≠ 36 ∨ s.length ≤ p + 1) : subsF k (s.drop p) = none := by
  rw [drop_at s p hp]
  cases k with
  | zero => rfl
  | succ k =>
    rcases Nat.lt_or_ge (p + 1) s.length with h1 | h1
    · rw [drop_at s (p + 1) h1, subsF, if_pos]
      exact h.elim id (fun h => by omega)
    · rw [List.drop_of_length_le h1]
      rfl
theorem subs_go (s : List UInt8) (k p : Nat) (hk : s.length ≤ k) (hp : p + 1 < s.length) (h : s.getD p 0 = 36) :
    subsF k (s.drop p) = (subsF k (valL (s.drop (p + 2))).2).map fun M => (s.getD (p + 1) 0, (valL (s.drop (p + 2))).1) :: M := by
  have h1 := valL_le (s.drop (p + 2))
  rw [List.length_drop] at h1
  rw [drop_at s p (by omega), drop_at s (p + 1) hp, h]
  cases k with
  | zero => omega
  | succ k =>
    rw [show p + 1 + 1 = p + 2 from rfl, subsF, if_neg (fun h => h rfl), subs_more k (k + 1) _ (by omega) (by omega)]
def boolN : Value → Nat
  | .bool true => 1
  | _ => 0
/-- A subfield in its block. -/
def XB (xb : Nat) (d : Int) (v : ByteArray) (wr : World) : Prop := wr.heap[xb]? = some (.cells #[.int .u8 d, .string v] 45 (0, 0))
theorem XB.c0 {xb : Nat} {d : Int} {v : ByteArray} {wr : World} (h : XB xb d v wr) : wr.cell? ⟨xb, 0, none⟩ = some (.int .u8 d) := by rw [Lib.cell_of_heap h]; rfl
theorem XB.c1 {xb : Nat} {d : Int} {v : ByteArray} {wr : World} (h : XB xb d v wr) : wr.cell? ⟨xb, 1, none⟩ = some (.string v) := by rw [Lib.cell_of_heap h]; rfl
theorem XB.fz {xb : Nat} {d : Int} {v : ByteArray} {wr : World} (h : XB xb d v wr) (i : Nat) : wr.frozen? ⟨xb, i, none⟩ = false := Lib.frozen_of_heap h i
theorem XB.set {xb : Nat} {d : Int} {v : ByteArray} {wr : World} (h : XB xb d v wr) (u : ByteArray) : XB xb d u (wr.setCell ⟨xb, 1, none⟩ (.string u)) := by
  unfold XB at h ⊢
  simp [World.setCell, Array.getElem?_modify, h]
/-- The two indicators in their block. -/
def IB (ib : Nat) (x y : UInt8) (wr : World) : Prop := wr.heap[ib]? = some (.cells #[.int .u8 ((x.toNat : Nat) : Int), .int .u8 ((y.toNat : Nat) : Int)] 5 (0, 0))
theorem IB.c0 {ib : Nat} {x y : UInt8} {wr : World} (h : IB ib x y wr) : wr.cell? ⟨ib, 0, none⟩ = some (.int .u8 ((x.toNat : Nat) : Int)) := by rw [Lib.cell_of_heap h]; rfl
theorem IB.c1 {ib : Nat} {x y : UInt8} {wr : World} (h : IB ib x y wr) : wr.cell? ⟨ib, 1, none⟩ = some (.int .u8 ((y.toNat : Nat) : Int)) := by rw [Lib.cell_of_heap h]; rfl
theorem IB.fz {ib : Nat} {x y : UInt8} {wr : World} (h : IB ib x y wr) (i : Nat) : wr.frozen? ⟨ib, i, none⟩ = false := Lib.frozen_of_heap h i
theorem IB.s0 {ib : Nat} {x y : UInt8} {wr : World} (h : IB ib x y wr) : IB ib 32 y (wr.setCell ⟨ib, 0, none⟩ (.int .u8 32)) := by
  unfold IB at h ⊢
  simp [World.setCell, Array.getElem?_modify, h]
theorem IB.s1 {ib : Nat} {x y : UInt8} {wr : World} (h : IB ib x y wr) : IB ib x 32 (wr.setCell ⟨ib, 1, none⟩ (.int .u8 32)) := by
  unfold IB at h ⊢
  simp [World.setCell, Array.getElem?_modify, h]
theorem IB.str {ib : Nat} {x y : UInt8} {wr : World} (h : IB ib x y wr) : (convert 48 9 (.slice (some ⟨ib, 0, none⟩) 2 2)).run Tryd.prog wr = .ok (.string (S [x, y])) wr := by
  rw [← strOfNums_S]
  have h2 := run_convert_bytes_arg (P := Tryd.prog) wr 48 5 Tryd.underlying48 Tryd.underlying5 ib 0 2 2 ([x, y].map fun x => (x.toNat : Int)) rfl (fun i hi => by
    match i, hi with
    | 0, _ => exact h.c0
    | 1, _ => exact h.c1) 9 Tryd.underlying9
  exact h2
theorem unB_35 : unB 35 = 32 := rfl
theorem unB_not (x : UInt8) (h : x ≠ 35) : unB x = x := if_neg h
theorem byte_cases (x : UInt8) (y : Int) (h : y = ((x.toNat : Nat) : Int)) : (x = 35 ∧ y = 35) ∨ (x = 32 ∧ y = 32) ∨ (x ≠ 35 ∧ x ≠ 32 ∧ (y == 35) = false ∧ (y == 32) = false) := by
  subst h
  by_cases h1 : x = 35
  · exact .inl ⟨h1, by rw [h1]; rfl⟩
  · by_cases h2 : x = 32
    · exact .inr (.inl ⟨h2, by rw [h2]; rfl⟩)
    · have n1 : x.toNat ≠ 35 := fun e => h1 (UInt8.toNat_inj.1 e)
      have n2 : x.toNat ≠ 32 := fun e => h2 (UInt8.toNat_inj.1 e)
      refine .inr (.inr ⟨h1, h2, ?_, ?_⟩)
      · generalize x.toNat = q at *
        simp; omega
      · generalize x.toNat = q at *
        simp; omega
theorem authL_stop (s : List UInt8) (p a : Nat) (h : s.length ≤ p ∨ digB (s.getD p 0) = false ∨ 9999 < a) : authL (s.drop p) a = (a, s.drop p) := by
  rcases Nat.lt_or_ge p s.length with hp | hp
  · rw [drop_at s p hp, authL, if_neg]
    rintro ⟨h1, h2⟩
    rcases h with h | h | h
    · omega
    · rw [h] at h1; cases h1
    · omega
  · rw [List.drop_of_length_le hp]
    rfl
theorem authL_go (s : List UInt8) (p a : Nat) (hp : p < s.length) (h1 : digB (s.getD p 0) = true) (h2 : a ≤ 9999) : authL (s.drop p) a = authL (s.drop (p + 1)) (a * 10 + ((s.getD p 0).toNat - 48)) := by
  rw [drop_at s p hp, authL, if_pos ⟨h1, h2⟩]
end

section
open Go.RowKit Go.PlainAid
def fld0 : Fld := ⟨[], [], [], 0⟩
/-- What Parse returns. -/
def parseR (s : List UInt8) : Fld × Int := match parseO s with
  | some f => (f, 0)
  | none => (fld0, 3)

/-- The four cells of a field are stored. -/
theorem field_set {w : World} {b : Nat} {c0 c1 c2 c3 x0 x1 x2 x3 : Value} (h : w.heap[b]? = some (.cells #[c0, c1, c2, c3] 43 (0, 0))) :
    ((((w.setCell ⟨b, 0, none⟩ x0).setCell ⟨b, 1, none⟩ x1).setCell ⟨b, 2, none⟩ x2).setCell ⟨b, 3, none⟩ x3).heap[b]? = some (.cells #[x0, x1, x2, x3] 43 (0, 0)) := by
  simp [World.setCell, Array.getElem?_modify, h]
theorem field_cells {w : World} {b : Nat} {c0 c1 c2 c3 : Value} (h : w.heap[b]? = some (.cells #[c0, c1, c2, c3] 43 (0, 0))) :
    (w.cell? ⟨b, 0, none⟩ = some c0 ∧ w.cell? ⟨b, 1, none⟩ = some c1 ∧ w.cell? ⟨b, 2, none⟩ = some c2 ∧ w.cell? ⟨b, 3, none⟩ = some c3) ∧
    (w.frozen? ⟨b, 0, none⟩ = false ∧ w.frozen? ⟨b, 1, none⟩ = false ∧ w.frozen? ⟨b, 2, none⟩ = false ∧ w.frozen? ⟨b, 3, none⟩ = false) := by
  refine ⟨⟨?_, ?_, ?_, ?_⟩, Lib.frozen_of_heap h 0, Lib.frozen_of_heap h 1, Lib.frozen_of_heap h 2, Lib.frozen_of_heap h 3⟩
  · rw [Lib.cell_of_heap h]; rfl
  · rw [Lib.cell_of_heap h]; rfl
  · rw [Lib.cell_of_heap h]; rfl
  · rw [Lib.cell_of_heap h]; rfl
end

section
open Go.RowKit Go.PlainAid
theorem val_le : ∀ l : List UInt8, (valL l).1.length ≤ l.length
  | [] => Nat.le_refl _
  | [c] => by rw [valL]; split <;> simp
  | c :: d :: t => by
    have h1 := val_le (d :: t)
    have h2 := val_le t
    rw [valL]
    split
    · simp at h1 ⊢; omega
    · split
      · simp; omega
      · simp
theorem subs_le : ∀ (k : Nat) (l : List UInt8) (L : List Sub), subsF k l = some L → ∀ i, i < L.length → (L.getD i sub0).2.length ≤ l.length
  | k, [], L, h, i, hi => by
    have : L = [] := by cases k <;> simpa [subsF] using h.symm
    rw [this] at hi
    cases hi
  | 0, _ :: _, L, h, _, _ => by cases h
  | k + 1, [_], L, h, _, _ => by cases h
  | k + 1, c :: d :: t, L, h, i, hi => by
    rw [subsF] at h
    split at h
    · cases h
    · cases hM : subsF k (valL t).2 with
      | none => rw [hM] at h; cases h
      | some M =>
        rw [hM] at h
        obtain rfl := (Option.some.inj h).symm
        have h1 := val_le t
        have h2 := valL_le t
        cases i with
        | zero =>
          show (valL t).1.length ≤ _
          simp; omega
        | succ i =>
          have := subs_le k (valL t).2 M hM i (by simpa using hi)
          show (M.getD i sub0).2.length ≤ _
          simp only [List.length_cons]
          omega
theorem read_le (s : List UInt8) (f : Fld) (h : readL s = some f) : ∀ i, i < f.subs.length → (f.subs.getD i sub0).2.length ≤ s.length := by
  unfold readL at h
  split at h
  · cases h
  split at h
  · cases h
  split at h
  · cases h
  cases hM : subsF s.length ((authR (s.drop 3)).2.drop 4) with
  | none => rw [hM] at h; cases h
  | some M =>
    rw [hM] at h
    obtain rfl := (Option.some.inj h).symm
    intro i hi
    have h1 := subs_le _ _ _ hM i hi
    have hA : ∀ (l : List UInt8) (a : Nat), (authL l a).2.length ≤ l.length := by
      intro l
      induction l with
      | nil => intro a; simp [authL]
      | cons c t ih =>
        intro a
        rw [authL]
        split
        · have := ih (a * 10 + (c.toNat - 48)); simp; omega
        · simp
    have h2 : (authR (s.drop 3)).2.length ≤ s.length := by
      unfold authR
      split
      · have := hA ((s.drop 3).drop 1) 0
        simp at this ⊢
        omega
      · simp
    rw [List.length_drop] at h1
    show (M.getD i sub0).2.length ≤ _
    omega
end

end Go.Proofs.YtnfallkeicehiaaDoor
