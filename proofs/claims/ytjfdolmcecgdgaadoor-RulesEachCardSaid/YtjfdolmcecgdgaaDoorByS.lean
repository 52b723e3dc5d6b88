/- Texts as lists of bytes. -/
import Derived.Test.YtjfdolmcecgdgaaDoorProg
import Derived.Lib.Hide
import Derived.Below
import Derived.WalkKit
import Derived.BigCall
import Derived.PlainAid
import Derived.Laws.AppendOwn
import Derived.Laws.BytesArg
namespace Go.Proofs.YtjfdolmcecgdgaaDoor
open Go.RowKit Go.PlainAid

/-- A text of these bytes. -/
def S (l : List UInt8) : ByteArray := ⟨l.toArray⟩
theorem S_size (l : List UInt8) : (S l).size = l.length := by simp [S, ByteArray.size]
theorem S_append (a b : List UInt8) : S a ++ S b = S (a ++ b) := by
  apply ByteArray.ext
  apply Array.toList_inj.1
  simp [S, ByteArray.data_append]
theorem S_list (l : List UInt8) : (S l).data.toList = l := rfl
theorem S_of (s : ByteArray) : S s.data.toList = s := rfl
theorem S_inj {a b : List UInt8} (h : S a = S b) : a = b := by
  have := congrArg (fun s : ByteArray => s.data.toList) h
  exact this
theorem S_extract (l : List UInt8) (a b : Nat) : (S l).extract a b = S ((l.take b).drop a) := by
  apply ByteArray.ext
  apply Array.toList_inj.1
  simp [S, ByteArray.data_extract, List.drop_take]
theorem bt_S (l : List UInt8) (i : Nat) : bt (S l) i = ((l.getD i 0).toNat : Int) := by
  unfold bt
  by_cases h : i < (S l).size
  · rw [dif_pos h]
    have h' : i < l.length := by rwa [S_size] at h
    rw [List.getD_eq_getElem?_getD, List.getElem?_eq_getElem h']
    rfl
  · rw [dif_neg h]
    have h' : ¬ i < l.length := by rwa [S_size] at h
    rw [List.getD_eq_getElem?_getD, List.getElem?_eq_none (by omega)]
    rfl
/-- The byte of a digit. -/
def dgt (r : Nat) : UInt8 := UInt8.ofNat (48 + r)
theorem dgt_nat (c : Nat) (h : c ≤ 9) : (dgt c).toNat = 48 + c := by
  unfold dgt
  rw [UInt8.toNat_ofNat']
  omega
theorem S_facts (l : List UInt8) (h : l ≠ []) : (S l).toList.isEmpty = false ∧ ¬ (S l).toList = [] := by
  have h2 : (S l).toList = l := by
    rw [ByteArray.toList_eq]; rfl
  rw [h2]
  refine ⟨?_, h⟩
  cases l with
  | nil => exact absurd rfl h
  | cons _ _ => rfl
theorem first_bad (f : Nat → Bool) : ∀ n, (∀ i, i < n → f i = true) ∨ ∃ j, j < n ∧ (∀ i, i < j → f i = true) ∧ f j = false
  | 0 => .inl fun i hi => by omega
  | n + 1 => by
    rcases first_bad f n with h | ⟨j, hj, h⟩
    · cases hf : f n
      · exact .inr ⟨n, Nat.lt_succ_self n, h, hf⟩
      · exact .inl fun i hi => by
          rcases Nat.lt_or_ge i n with h1 | h1
          · exact h i h1
          · rw [show i = n by omega]; exact hf
    · exact .inr ⟨j, by omega, h⟩

/-! A slice of bytes of the call's own. -/
def u8V (x : UInt8) : Value := .int .u8 (x.toNat : Int)
theorem infoByte : (Tryd.prog.info? 5).map (fun i => (i.zero, i.size, i.bytes)) = some (some (.int .u8 0), 1, 1) := by kernel_rfl
theorem strOfNums_S (l : List UInt8) : strOfNums (l.map fun x => (x.toNat : Int)) = S l := by
  apply ByteArray.ext
  apply Array.toList_inj.1
  rw [strOfNums_data, List.map_map]
  show l.map _ = l
  conv => rhs; rw [← List.map_id l]
  refine List.map_congr_left fun x _ => ?_
  simp
/-- A slice of bytes in memory from block B on, not nil: these bytes. -/
structure Byt (B : Nat) (v : Value) (xs : List UInt8) (w : World) : Prop where
  row : w.ownsRow B 5 1 v xs.length (xs.map u8V)
  form : ∃ g cap, v = .slice (some ⟨g, 0, none⟩) xs.length cap
theorem Byt.mk' {B : Nat} {v : Value} {xs : List UInt8} {w : World} (h : w.ownsRow B 5 1 v xs.length (xs.map u8V)) (hne : xs ≠ []) : Byt B v xs w := by
  refine ⟨h, ?_⟩
  rcases h.2 with ⟨_, h0⟩ | ⟨g, cap, cur, rfl, hb, hg, hc, hm, hs, ht⟩
  · exact absurd (List.eq_nil_of_length_eq_zero h0) hne
  · exact ⟨g, cap, rfl⟩
theorem Byt.open {B : Nat} {v : Value} {xs : List UInt8} {w : World} (h : Byt B v xs w) :
    ∃ g cap, v = .slice (some ⟨g, 0, none⟩) xs.length cap ∧ B ≤ g ∧ g < w.heap.size ∧ ∀ i u, (xs.map u8V)[i]? = some u → w.cell? ⟨g, i, none⟩ = some u := by
  obtain ⟨g', cap', e⟩ := h.form
  rcases h.row.2 with ⟨h0, _⟩ | ⟨g, cap, cur, rfl, hb, hg, hc, hm, hs, ht⟩
  · rw [h0] at e; cases e
  · refine ⟨g, cap, rfl, hb, (Array.getElem?_eq_some_iff.1 hg).1, fun i u hi => ?_⟩
    have := h.row.cells (g := g) rfl i u hi
    have hadd : (⟨g, 0, none⟩ : Addr).add i = ⟨g, i, none⟩ := by unfold Addr.add; split <;> simp_all
    rwa [hadd] at this
theorem Byt.empty (w : World) : Byt w.heap.size (.slice (some ⟨w.heap.size, 0, none⟩) 0 0) [] (w.alloc (.cells #[] 5)) :=
  ⟨⟨rfl, .inr ⟨w.heap.size, 0, #[], rfl, Nat.le_refl _, heap_alloc_new w _, Nat.le_refl _, Nat.zero_le _, rfl, rfl⟩⟩, ⟨_, _, rfl⟩⟩
theorem Byt.one (w : World) (x : UInt8) : Byt w.heap.size (.slice (some ⟨w.heap.size, 0, none⟩) 1 1) [x] (w.alloc (.cells #[u8V x] 5)) :=
  ⟨⟨rfl, .inr ⟨w.heap.size, 1, #[u8V x], rfl, Nat.le_refl _, heap_alloc_new w _, Nat.le_refl _, by decide, rfl, rfl⟩⟩, ⟨_, _, rfl⟩⟩
theorem cells_one (w : World) (x : Value) (t : TypeId) : ∀ j u, [x][j]? = some u → (w.alloc (.cells #[x] t)).cell? ((⟨w.heap.size, 0, none⟩ : Addr).add j) = some u := by
  intro j u hj
  match j, hj with
  | 0, hj => simp at hj; subst hj; simp [Addr.add]
  | (j + 1), hj => simp at hj
theorem info_byte : ∃ i0, Tryd.prog.info? 5 = some i0 ∧ i0.zero = some (.int .u8 0) ∧ i0.size = 1 ∧ i0.bytes = 1 := by
  obtain ⟨i0, h0, h2⟩ := Option.map_eq_some_iff.1 infoByte
  simp only [Prod.mk.injEq] at h2
  exact ⟨i0, h0, h2.1, h2.2.1, h2.2.2⟩
end Go.Proofs.YtjfdolmcecgdgaaDoor
