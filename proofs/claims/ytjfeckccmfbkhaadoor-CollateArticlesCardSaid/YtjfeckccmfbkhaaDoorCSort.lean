/- The program's Sort of entries by the library's slices.SortFunc. -/
import Derived.Test.YtjfeckccmfbkhaaDoorShelfC
import Derived.Test.YtjfeckccmfbkhaaDoorCKey
import Derived.Laws.OwnMore
import Derived.Laws.MakeOwn
namespace Go.Proofs.YtjfeckccmfbkhaaDoor
open Go.RowKit Go.Sort

abbrev Ent := ByteArray × ByteArray
def cellsE (L : List Ent) : List Value := L.flatMap encE
theorem cellsE_len (L : List Ent) : (cellsE L).length = L.length * 2 := by
  induction L with
  | nil => rfl
  | cons x t ih => simp [cellsE, List.flatMap_cons, encE] at ih ⊢; omega
theorem cellsE_snoc (L : List Ent) (x : Ent) : cellsE (L ++ [x]) = cellsE L ++ [Value.string x.1, Value.string x.2] := by simp [cellsE, encE]
theorem cellsE_at : ∀ (L : List Ent) (i : Nat) (x : Ent), L[i]? = some x → (cellsE L)[i * 2]? = some (Value.string x.1) ∧ (cellsE L)[i * 2 + 1]? = some (Value.string x.2)
  | [], i, x, h => by simp at h
  | y :: t, 0, x, h => by
    simp at h
    subst h
    simp [cellsE, encE]
  | y :: t, i + 1, x, h => by
    have ih := cellsE_at t i x (by simpa using h)
    have e : cellsE (y :: t) = Value.string y.1 :: Value.string y.2 :: cellsE t := by simp [cellsE, encE]
    rw [e, show (i + 1) * 2 = i * 2 + 1 + 1 by omega, show i * 2 + 1 + 1 + 1 = (i * 2 + 1) + 1 + 1 by omega]
    simpa using ih

/-- A row of entries that the call owns, as the sort asks it. -/
theorem holds_own {w : World} {B blk n cap : Nat} {L : List Ent} (h : w.ownsRow B 47 2 (.slice (some ⟨blk, 0, none⟩) n cap) n (cellsE L)) : HoldsK encE 2 w blk 0 L.toArray := by
  intro j hj
  rw [size_flatK] at hj
  have hj' : j < L.length * 2 := by simpa using hj
  have hl : L.length * 2 = n * 2 := by rw [← cellsE_len]; exact h.1
  have hc := h.cellAt j (by omega)
  have hf := h.frozenAt j
  rw [get_flatK _ _ _ _ hj, Nat.zero_add]
  refine ⟨?_, hf⟩
  rw [hc]
  have hi : j / 2 < L.length := by omega
  have hx : L[j / 2]? = some L[j / 2] := List.getElem?_eq_getElem hi
  obtain ⟨c0, c1⟩ := cellsE_at L (j / 2) _ hx
  have hd : L.toArray[j / 2]! = L[j / 2] := by
    rw [getElem!_pos L.toArray (j / 2) (by simpa using hi)]
    simp
  rw [hd]
  have hm : j % 2 = 0 ∨ j % 2 = 1 := by omega
  rcases hm with hm | hm
  · have e : j = j / 2 * 2 := by omega
    rw [hm]
    have e2 : (cellsE L)[j]? = (cellsE L)[j / 2 * 2]? := by rw [← e]
    rw [e2, c0]
    rfl
  · have e : j = j / 2 * 2 + 1 := by omega
    rw [hm]
    have e2 : (cellsE L)[j]? = (cellsE L)[j / 2 * 2 + 1]? := by rw [← e]
    rw [e2, c1]
    rfl
theorem grownBy_sortK {w : World} {g n : Nat} {os : Array Obj} (d : Array Ent) : w.grownBy (sortWorldK encE 2 w g 0 n d os) (some g) := by
  unfold sortWorldK putRowK
  refine ⟨rfl, rfl, rfl, by simp, fun k hk hne => ?_⟩
  rw [heap_grow_old _ _ (by simpa using hk)]
  have : g ≠ k := fun e => hne (by rw [e])
  simp [putRow, mapBlock, Sort.ahead, Array.getElem?_modify, this]

theorem srt_merge (L : List Ent) : (L.toArray.toList.mergeSort fun x y => !(ltOf cmpE) y x).toArray = (srt L).toArray := rfl

theorem sortE_any (B blk n cap : Nat) (L : List Ent) (hn : L.length = n) (hz : n ≤ 1000000) (w : World) (h : w.ownsRow B 47 2 (.slice (some ⟨blk, 0, none⟩) n cap) n (cellsE L)) :
    Calls Tryd.prog 40 #[.slice (some ⟨blk, 0, none⟩) n cap, .func (.func 39) #[] #[]] w fun e w' => e = .returned (.tuple #[]) ∧
      (∀ (i : Nat) (x : Ent), (srt L)[i]? = some x → w'.cell? ⟨blk, i * 2, none⟩ = some (.string x.1) ∧ w'.cell? ⟨blk, i * 2 + 1, none⟩ = some (.string x.2)) ∧ blk < w'.heap.size ∧ Below blk w w' := by
  have hblk : blk < w.heap.size := (h.lt blk rfl).2
  have hH := holds_own h
  have hs : L.toArray.size = n := by simpa using hn
  have hcon := AnyQ.slices_SortFunc_total Tryd.sortE 2 Tryd.isAgg47 Tryd.sizeOf47 encE (fun _ => rfl)
    (fun x v hv => by simp [encE] at hv; rcases hv with rfl | rfl <;> rfl) cmpE ltE_swo 39 #[] blk 0 cap L.toArray w
    (enters_of Tryd.func39 (by kernel_rfl) rfl) (fun _ _ _ _ x y => compare_any x y _) hH hblk (by omega) ltE_total
  rw [srt_merge, hs] at hcon
  refine (show Calls Tryd.prog 40 _ _ _ from hcon).mono ?_
  rintro e w' ⟨rfl, m, os, rfl⟩
  have hsz : (srt L).toArray.size = L.toArray.size := by simp [srt_len]
  have hH2 := holdsK_sortWorldK encE 2 w blk 0 m L.toArray (srt L).toArray os hblk hH hsz
  refine ⟨rfl, fun i x hx => ?_, lt_sortWorldK encE 2 w blk 0 m (srt L).toArray os hblk, (Below.refl blk w).grown (grownBy_sortK _) (Nat.le_of_lt hblk) (fun k hk => by cases hk; exact Nat.le_refl _)⟩
  have hi : i < (srt L).toArray.size := by
    have := (List.getElem?_eq_some_iff.1 hx).1
    simpa using this
  have hd : (srt L).toArray[i]! = x := by
    rw [getElem!_pos _ i hi]
    have := (List.getElem?_eq_some_iff.1 hx).2
    simpa using this
  have k0 := (hH2.cell (i := i) (c := 0) hi (by decide)).1
  have k1 := (hH2.cell (i := i) (c := 1) hi (by decide)).1
  rw [hd] at k0 k1
  refine ⟨?_, ?_⟩
  · have e : 0 + i * 2 + 0 = i * 2 := by omega
    rw [e] at k0
    exact k0
  · have e : 0 + i * 2 + 1 = i * 2 + 1 := by omega
    rw [e] at k1
    exact k1
end Go.Proofs.YtjfeckccmfbkhaaDoor
