/- Merged: ByS, Plain07, QL. -/
import Derived.Test.YtceneblmllpdnaaDoorProg
import Derived.Lib.Hide
import Derived.Below
import Derived.WalkKit
import Derived.BigCall
import Derived.PlainAid
import Derived.Laws.AppendOwn
import Derived.Laws.BytesArg
namespace Go.Proofs.YtceneblmllpdnaaDoor

section
open Go.RowKit Go.PlainAid
/-- A text of these bytes. -/
def S (l : List UInt8) : ByteArray := ⟨l.toArray⟩
theorem S_size (l : List UInt8) : (S l).size = l.length := by simp [S, ByteArray.size]
theorem S_append (a b : List UInt8) : S a ++ S b = S (a ++ b) := by
  apply ByteArray.ext
  apply Array.toList_inj.1
  simp [S, ByteArray.data_append]
theorem S_list (l : List UInt8) : (S l).data.toList = l := rfl
theorem S_of (s : ByteArray) : S s.data.toList = s := rfl
theorem S_inj {a b : List UInt8} (h : S a = S b) : a = b := by
  have := congrArg (fun s : ByteArray => s.data.toList) h
  exact this
theorem S_extract (l : List UInt8) (a b : Nat) : (S l).extract a b = S ((l.take b).drop a) := by
  apply ByteArray.ext
  apply Array.toList_inj.1
  simp [S, ByteArray.data_extract, List.drop_take]
theorem bt_S (l : List UInt8) (i : Nat) : bt (S l) i = ((l.getD i 0).toNat : Int) := by
  unfold bt
  by_cases h : i < (S l).size
  · rw [dif_pos h]
    have h' : i < l.length := by rwa [S_size] at h
    rw [List.getD_eq_getElem?_getD, List.getElem?_eq_getElem h']
    rfl
  · rw [dif_neg h]
    have h' : ¬ i < l.length := by rwa [S_size] at h
    rw [List.getD_eq_getElem?_getD, List.getElem?_eq_none (by omega)]
    rfl
/-- The byte of a digit. -/
def dgt (r : Nat) : UInt8 := UInt8.ofNat (48 + r)
theorem dgt_nat (c : Nat) (h : c ≤ 9) : (dgt c).toNat = 48 + c := by
  unfold dgt
  rw [UInt8.toNat_ofNat']
  omega
theorem S_facts (l : List UInt8) (h : l ≠ []) : (S l).toList.isEmpty = false ∧ ¬ (S l).toList = [] := by
  have h2 : (S l).toList = l := by
    rw [ByteArray.toList_eq]; rfl
  rw [h2]
  refine ⟨?_, h⟩
  cases l with
  | nil => exact absurd rfl h
  | cons _ _ => rfl
theorem first_bad (f : Nat → Bool) : ∀ n, (∀ i, i < n → f i = true) ∨ ∃ j, j < n ∧ (∀ i, i < j → f i = true) ∧ f j = false
  | 0 => .inl fun i hi => by omega
  | n + 1 => by
    rcases first_bad f n with h | ⟨j, hj, h⟩
    · cases hf : f n
      · exact .inr ⟨n, Nat.lt_succ_self n, h, hf⟩
      · exact .inl fun i hi => by
          rcases Nat.lt_or_ge i n with h1 | h1
          · exact h i h1
          · rw [show i = n by omega]; exact hf
    · exact .inr ⟨j, by omega, h⟩

/-! A slice of bytes of the call's own. -/
def u8V (x : UInt8) : Value := .int .u8 (x.toNat : Int)
theorem infoByteS : (Tryd.prog.info? 5).map (fun i => (i.zero, i.size, i.bytes)) = some (some (.int .u8 0), 1, 1) := by kernel_rfl
theorem strOfNums_S (l : List UInt8) : strOfNums (l.map fun x => (x.toNat : Int)) = S l := by
  apply ByteArray.ext
  apply Array.toList_inj.1
  rw [strOfNums_data, List.map_map]
  show l.map _ = l
  conv => rhs; rw [← List.map_id l]
  refine List.map_congr_left fun x _ => ?_
  simp
/-- A slice of bytes in memory from block B on, not nil: these bytes. -/
structure Byt (B : Nat) (v : Value) (xs : List UInt8) (w : World) : Prop where
  row : w.ownsRow B 5 1 v xs.length (xs.map u8V)
  form : ∃ g cap, v = .slice (some ⟨g, 0, none⟩) xs.length cap
theorem Byt.mk' {B : Nat} {v : Value} {xs : List UInt8} {w : World} (h : w.ownsRow B 5 1 v xs.length (xs.map u8V)) (hne : xs ≠ []) : Byt B v xs w := by
  refine ⟨h, ?_⟩
  rcases h.2 with ⟨_, h0⟩ | ⟨g, cap, cur, rfl, hb, hg, hc, hm, hs, ht⟩
  · exact absurd (List.eq_nil_of_length_eq_zero h0) hne
  · exact ⟨g, cap, rfl⟩
theorem Byt.open {B : Nat} {v : Value} {xs : List UInt8} {w : World} (h : Byt B v xs w) :
    ∃ g cap, v = .slice (some ⟨g, 0, none⟩) xs.length cap ∧ B ≤ g ∧ g < w.heap.size ∧ ∀ i u, (xs.map u8V)[i]? = some u → w.cell? ⟨g, i, none⟩ = some u := by
  obtain ⟨g', cap', e⟩ := h.form
  rcases h.row.2 with ⟨h0, _⟩ | ⟨g, cap, cur, rfl, hb, hg, hc, hm, hs, ht⟩
  · rw [h0] at e; cases e
  · refine ⟨g, cap, rfl, hb, (Array.getElem?_eq_some_iff.1 hg).1, fun i u hi => ?_⟩
    have := h.row.cells (g := g) rfl i u hi
    have hadd : (⟨g, 0, none⟩ : Addr).add i = ⟨g, i, none⟩ := by unfold Addr.add; split <;> simp_all
    rwa [hadd] at this
theorem Byt.empty (w : World) : Byt w.heap.size (.slice (some ⟨w.heap.size, 0, none⟩) 0 0) [] (w.alloc (.cells #[] 5)) :=
  ⟨⟨rfl, .inr ⟨w.heap.size, 0, #[], rfl, Nat.le_refl _, heap_alloc_new w _, Nat.le_refl _, Nat.zero_le _, rfl, rfl⟩⟩, ⟨_, _, rfl⟩⟩
theorem Byt.one (w : World) (x : UInt8) : Byt w.heap.size (.slice (some ⟨w.heap.size, 0, none⟩) 1 1) [x] (w.alloc (.cells #[u8V x] 5)) :=
  ⟨⟨rfl, .inr ⟨w.heap.size, 1, #[u8V x], rfl, Nat.le_refl _, heap_alloc_new w _, Nat.le_refl _, by decide, rfl, rfl⟩⟩, ⟨_, _, rfl⟩⟩
theorem cells_one (w : World) (x : Value) (t : TypeId) : ∀ j u, [x][j]? = some u → (w.alloc (.cells #[x] t)).cell? ((⟨w.heap.size, 0, none⟩ : Addr).add j) = some u := by
  intro j u hj
  match j, hj with
  | 0, hj => simp at hj; subst hj; simp [Addr.add]
  | (j + 1), hj => simp at hj
theorem info_byte : ∃ i0, Tryd.prog.info? 5 = some i0 ∧ i0.zero = some (.int .u8 0) ∧ i0.size = 1 ∧ i0.bytes = 1 := by
  obtain ⟨i0, h0, h2⟩ := Option.map_eq_some_iff.1 infoByteS
  simp only [Prod.mk.injEq] at h2
  exact ⟨i0, h0, h2.1, h2.2.1, h2.2.2⟩
end

section
def digB (x : UInt8) : Bool := decide (48 ≤ x.toNat) && decide (x.toNat ≤ 57)
theorem digB_iff (x : UInt8) : digB x = true ↔ 48 ≤ x.toNat ∧ x.toNat ≤ 57 := by simp [digB]
def codeB (x : UInt8) : Bool := digB x || (decide (97 ≤ x.toNat) && decide (x.toNat ≤ 122))
/-- Three digits, from 010 on. -/
def tagB (l : List UInt8) : Bool := decide (l.length = 3) && digB (l.getD 0 0) && digB (l.getD 1 0) && digB (l.getD 2 0) && !(decide (l.getD 0 0 = 48) && decide (l.getD 1 0 = 48))
abbrev Sub := UInt8 × List UInt8
structure Fld where
  tag : List UInt8
  ind : List UInt8
  subs : List Sub
  auth : Int
def sub0 : Sub := (0, [])
/-- The values of the subfields that a code picks. -/
def inB (c : UInt8) (codes : List UInt8) : Bool := codes.any (fun x => decide (x = c)) || decide (codes = [])
def allL (subs : List Sub) (codes : List UInt8) : List (List UInt8) := (subs.filter fun s => inB s.1 codes).map (·.2)
theorem allL_snoc (L : List Sub) (codes : List UInt8) (k : Nat) (h : k < L.length) : allL (L.take (k + 1)) codes = allL (L.take k) codes ++ (if inB (L.getD k sub0).1 codes = true then [(L.getD k sub0).2] else []) := by
  rw [List.take_succ_eq_append_getElem h, List.getD_eq_getElem?_getD, List.getElem?_eq_getElem h]
  unfold allL
  rw [List.filter_append, List.map_append]
  congr 1
  show _ = if inB L[k].1 codes = true then [L[k].2] else []
  by_cases hi : inB L[k].1 codes = true
  · rw [if_pos hi]; simp [hi]
  · rw [if_neg hi]; simp [hi]
theorem allL_length (L : List Sub) (codes : List UInt8) : (allL L codes).length ≤ L.length := by
  unfold allL
  rw [List.length_map]
  exact List.length_filter_le _ _
def getL : List Sub → UInt8 → List UInt8 × Bool
  | [], _ => ([], false)
  | s :: t, c => if s.1 = c then (s.2, true) else getL t c
theorem getL_hit : ∀ (L : List Sub) (c : UInt8) (k : Nat), k < L.length → (∀ j, j < k → (L.getD j sub0).1 ≠ c) → (L.getD k sub0).1 = c → getL L c = ((L.getD k sub0).2, true)
  | [], _, _, hk, _, _ => by cases hk
  | s :: t, c, 0, _, _, he => by
    have he : s.1 = c := he
    rw [getL, if_pos he]
    rfl
  | s :: t, c, k + 1, hk, h, he => by
    have h0 : ¬ s.1 = c := h 0 (Nat.succ_pos k)
    rw [getL, if_neg h0]
    exact getL_hit t c k (by simpa using hk) (fun j hj => h (j + 1) (by omega)) he
theorem getL_miss : ∀ (L : List Sub) (c : UInt8), (∀ j, j < L.length → (L.getD j sub0).1 ≠ c) → getL L c = ([], false)
  | [], _, _ => rfl
  | s :: t, c, h => by
    have h0 : ¬ s.1 = c := h 0 (by simp)
    rw [getL, if_neg h0]
    exact getL_miss t c (fun j hj => h (j + 1) (by simpa using hj))
def setL (subs : List Sub) (c : UInt8) (v : List UInt8) : List Sub :=
  if v = [] then subs.filter fun s => decide (s.1 ≠ c)
  else match subs.findIdx? (fun s => decide (s.1 = c)) with
    | some i => subs.set i (c, v)
    | none => subs ++ [(c, v)]
end

section
open Go.RowKit
/-- A slice of these subfields. -/
def QL (v : Value) (L : List Sub) (w : World) : Prop :=
  ∃ a cap, v = .slice a L.length cap ∧ L.length ≤ cap ∧ cap ≤ maxLen ∧ (a = none → cap = 0) ∧ ∀ i, i < L.length → ∃ g o, a = some ⟨g, o, none⟩ ∧ g < w.heap.size ∧
    w.cell? ⟨g, o + i * 2, none⟩ = some (.int .u8 ((L.getD i sub0).1.toNat : Int)) ∧ w.cell? ⟨g, o + i * 2 + 1, none⟩ = some (.string (S (L.getD i sub0).2))
theorem QL.after {v : Value} {L : List Sub} {w w' : World} (h : QL v L w) (hb : Below w.heap.size w w') : QL v L w' := by
  obtain ⟨a, cap, rfl, hc, hm, hn, hx⟩ := h
  refine ⟨a, cap, rfl, hc, hm, hn, fun i hi => ?_⟩
  obtain ⟨g, o, rfl, hg, h1, h2⟩ := hx i hi
  exact ⟨g, o, rfl, Nat.lt_of_lt_of_le hg hb.size, (hb.cell (p := ⟨g, o + i * 2, none⟩) hg).trans h1, (hb.cell (p := ⟨g, o + i * 2 + 1, none⟩) hg).trans h2⟩
theorem QL.length {v : Value} {L : List Sub} {w : World} (h : QL v L w) : ∃ a cap, v = .slice a L.length cap ∧ L.length ≤ cap ∧ cap ≤ maxLen := by
  obtain ⟨a, cap, h1, h2, h3, _⟩ := h
  exact ⟨a, cap, h1, h2, h3⟩
/-- A field. -/
def FV (f : Fld) (u : Value) : Value := .agg #[.string (S f.tag), .string (S f.ind), u, .int .i64 f.auth]
end

end Go.Proofs.YtceneblmllpdnaaDoor
