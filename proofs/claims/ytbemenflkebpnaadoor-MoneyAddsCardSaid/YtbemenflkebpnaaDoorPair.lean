/- Two rows of integers of the call's own, side by side. -/
import Derived.Test.YtbemenflkebpnaaDoorPlain04
import Derived.Test.YtbemenflkebpnaaDoorInts
import Derived.Test.YtbemenflkebpnaaDoorOwn2
import Derived.Lib.SmallJoins
namespace Go.Proofs.YtbemenflkebpnaaDoor
open Go.RowKit

theorem infoInt : (Tryd.prog.info? 3).map (fun i => (i.zero, i.size, i.bytes)) = some (some (.int .i64 0), 1, 8) := by kernel_rfl
theorem cells_one (w : World) (x : Value) (t : TypeId) : ∀ j u, [x][j]? = some u → (w.alloc (.cells #[x] t)).cell? ((⟨w.heap.size, 0, none⟩ : Addr).add j) = some u := by
  intro j u hj
  match j, hj with
  | 0, hj => simp at hj; subst hj; simp [Addr.add]
  | (j + 1), hj => simp at hj

/-- A row of numbers. -/
def rowN (f : Nat → Nat) (k : Nat) : List Value := (List.range k).map fun i => .int .i64 (f i : Int)
theorem rowN_succ (f : Nat → Nat) (k : Nat) : rowN f (k + 1) = rowN f k ++ [.int .i64 (f k : Int)] := by simp [rowN, List.range_succ]
theorem rowN_at (f : Nat → Nat) (k i : Nat) (h : i < k) : (rowN f k)[i]? = some (.int .i64 (f i : Int)) := by simp [rowN, h]
theorem sumN_mono (f : Nat → Nat) (a b : Nat) (h : a ≤ b) : sumN f a ≤ sumN f b := by
  induction b with
  | zero => rw [Nat.le_zero.1 h]; exact Nat.le_refl _
  | succ b ih =>
    rcases Nat.lt_or_ge a (b + 1) with h1 | h1
    · have := ih (by omega)
      show sumN f a ≤ sumN f b + f b
      omega
    · have : a = b + 1 := by omega
      rw [this]; exact Nat.le_refl _

/-- The two rows in their blocks. -/
structure PR (w : World) (gp gr n : Nat) (P R : Nat → Int) (wx : World) : Prop where
  bel : Below w.heap.size w wx
  ne : gp ≠ gr
  lp : w.heap.size ≤ gp
  lr : w.heap.size ≤ gr
  rp : ∃ cur, wx.heap[gp]? = some (.cells cur 3 (0, 0)) ∧ ∀ i, i < n → cur[i]? = some (.int .i64 (P i))
  rr : ∃ cur, wx.heap[gr]? = some (.cells cur 3 (0, 0)) ∧ ∀ i, i < n → cur[i]? = some (.int .i64 (R i))
theorem PR.cp {w wx : World} {gp gr n : Nat} {P R : Nat → Int} (h : PR w gp gr n P R wx) (i : Nat) (hi : i < n) : wx.cell? ⟨gp, i, none⟩ = some (.int .i64 (P i)) := by
  obtain ⟨cur, h1, h2⟩ := h.rp
  rw [Joins.cell_of_block h1]
  exact h2 i hi
theorem PR.cr {w wx : World} {gp gr n : Nat} {P R : Nat → Int} (h : PR w gp gr n P R wx) (i : Nat) (hi : i < n) : wx.cell? ⟨gr, i, none⟩ = some (.int .i64 (R i)) := by
  obtain ⟨cur, h1, h2⟩ := h.rr
  rw [Joins.cell_of_block h1]
  exact h2 i hi
theorem PR.fp {w wx : World} {gp gr n : Nat} {P R : Nat → Int} (h : PR w gp gr n P R wx) (i : Nat) : wx.frozen? ⟨gp, i, none⟩ = false := by
  obtain ⟨cur, h1, _⟩ := h.rp
  exact Joins.unfrozen_of_block h1 i
theorem PR.fr {w wx : World} {gp gr n : Nat} {P R : Nat → Int} (h : PR w gp gr n P R wx) (i : Nat) : wx.frozen? ⟨gr, i, none⟩ = false := by
  obtain ⟨cur, h1, _⟩ := h.rr
  exact Joins.unfrozen_of_block h1 i
theorem PR.drew {w wx : World} {gp gr n : Nat} {P R : Nat → Int} (h : PR w gp gr n P R wx) : PR w gp gr n P R wx.drew := ⟨h.bel.drew, h.ne, h.lp, h.lr, h.rp, h.rr⟩
theorem PR.congr {w wx : World} {gp gr n : Nat} {P R P' R' : Nat → Int} (h : PR w gp gr n P R wx) (hp : ∀ i, i < n → P' i = P i) (hr : ∀ i, i < n → R' i = R i) : PR w gp gr n P' R' wx := by
  obtain ⟨c1, a1, a2⟩ := h.rp
  obtain ⟨c2, b1, b2⟩ := h.rr
  exact ⟨h.bel, h.ne, h.lp, h.lr, ⟨c1, a1, fun i hi => by rw [hp i hi]; exact a2 i hi⟩, ⟨c2, b1, fun i hi => by rw [hr i hi]; exact b2 i hi⟩⟩
theorem PR.setP {w wx : World} {gp gr n : Nat} {P R : Nat → Int} (h : PR w gp gr n P R wx) (b : Nat) (x : Int) : PR w gp gr n (fun i => if i = b then x else P i) R (wx.setCell ⟨gp, b, none⟩ (.int .i64 x)) := by
  obtain ⟨c1, a1, a2⟩ := h.rp
  obtain ⟨c2, b1, b2⟩ := h.rr
  refine ⟨h.bel.setCell (p := ⟨gp, b, none⟩) h.lp _, h.ne, h.lp, h.lr, ⟨_, Joins.block_setCell a1 _, fun i hi => ?_⟩, ⟨c2, ?_, b2⟩⟩
  · have h2 := a2 i hi
    have hlt : i < c1.size := (Array.getElem?_eq_some_iff.1 h2).1
    rw [Array.getElem?_setIfInBounds]
    by_cases he : b = i
    · subst he
      rw [if_pos rfl, if_pos hlt, if_pos rfl]
    · rw [if_neg he, if_neg (fun h => he h.symm)]
      exact h2
  · rw [Below.heap_setCell _ _ _ _ (fun e => h.ne e.symm)]
    exact b1
theorem PR.setR {w wx : World} {gp gr n : Nat} {P R : Nat → Int} (h : PR w gp gr n P R wx) (b : Nat) (x : Int) : PR w gp gr n P (fun i => if i = b then x else R i) (wx.setCell ⟨gr, b, none⟩ (.int .i64 x)) := by
  obtain ⟨c1, a1, a2⟩ := h.rp
  obtain ⟨c2, b1, b2⟩ := h.rr
  refine ⟨h.bel.setCell (p := ⟨gr, b, none⟩) h.lr _, h.ne, h.lp, h.lr, ⟨c1, ?_, a2⟩, ⟨_, Joins.block_setCell b1 _, fun i hi => ?_⟩⟩
  · rw [Below.heap_setCell _ _ _ _ (fun e => h.ne e)]
    exact a1
  · have h2 := b2 i hi
    have hlt : i < c2.size := (Array.getElem?_eq_some_iff.1 h2).1
    rw [Array.getElem?_setIfInBounds]
    by_cases he : b = i
    · subst he
      rw [if_pos rfl, if_pos hlt, if_pos rfl]
    · rw [if_neg he, if_neg (fun h => he h.symm)]
      exact h2
/-- Two owned rows in blocks of their own are such a pair. -/
theorem PR.of {w wx : World} {p r : Value} {n : Nat} {f g : Nat → Nat} (hn : 0 < n) (hb : Below w.heap.size w wx) (hp : wx.ownsRow w.heap.size 3 1 p n (rowN f n)) (hr : wx.ownsRow w.heap.size 3 1 r n (rowN g n))
    (hne : p.ownBlock = none ∨ p.ownBlock ≠ r.ownBlock) : ∃ gp gr cp cr, p = .slice (some ⟨gp, 0, none⟩) n cp ∧ r = .slice (some ⟨gr, 0, none⟩) n cr ∧ n ≤ cp ∧ n ≤ cr ∧ gp < wx.heap.size ∧ PR w gp gr n (fun i => (f i : Int)) (fun i => (g i : Int)) wx := by
  rcases hp.2 with ⟨_, h0⟩ | ⟨gp, cp, c1, rfl, hbp, hgp, hcp, _, _, ht1⟩
  · omega
  rcases hr.2 with ⟨_, h0⟩ | ⟨gr, cr, c2, rfl, hbr, hgr, hcr, _, _, ht2⟩
  · omega
  rw [Nat.mul_one] at ht1 ht2
  have hne2 : gp ≠ gr := by
    rcases hne with h | h
    · simp [Value.ownBlock] at h
    · simpa [Value.ownBlock] using h
  refine ⟨gp, gr, cp, cr, rfl, rfl, hcp, hcr, (Array.getElem?_eq_some_iff.1 hgp).1, hb, hne2, hbp, hbr, ⟨c1, hgp, fun i hi => ?_⟩, ⟨c2, hgr, fun i hi => ?_⟩⟩
  · have h1 := rowN_at f n i hi
    rw [← ht1, List.getElem?_take_of_lt hi] at h1
    simpa using h1
  · have h1 := rowN_at g n i hi
    rw [← ht2, List.getElem?_take_of_lt hi] at h1
    simpa using h1

theorem IL_of_PR {w wx : World} {gp gr n cp : Nat} {P R : Nat → Int} (h : PR w gp gr n P R wx) (hc : n ≤ cp) (l : List Int) (hl : l.length = n) (he : ∀ i (h : i < l.length), l[i] = P i) : IL (.slice (some ⟨gp, 0, none⟩) n cp) l wx := by
  obtain ⟨cur, h1, h2⟩ := h.rp
  refine ⟨some ⟨gp, 0, none⟩, cp, by rw [hl], by omega, fun i x hx => ⟨gp, 0, rfl, (Array.getElem?_eq_some_iff.1 h1).1, ?_⟩⟩
  obtain ⟨hi, rfl⟩ := List.getElem?_eq_some_iff.1 hx
  rw [Nat.zero_add, h.cp i (by omega), he i hi]

end Go.Proofs.YtbemenflkebpnaaDoor
