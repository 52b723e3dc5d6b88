/- libraryref07: Set. -/
import Derived.Test.YtjfdolmcecgdgaaDoorR07D
import Derived.Lib.Builder
namespace Go.Proofs.YtjfdolmcecgdgaaDoor
open Go.RowKit Go.PlainAid

def encS (s : Sub) : List Value := [.int .u8 (s.1.toNat : Int), .string (S s.2)]
def cellsL (L : List Sub) : List Value := L.flatMap encS
theorem cellsL_snoc (M : List Sub) (s : Sub) : cellsL (M ++ [s]) = cellsL M ++ encS s := by simp [cellsL]
theorem cellsL_at : ∀ (L : List Sub) (i : Nat), i < L.length → (cellsL L)[i * 2]? = some (.int .u8 ((L.getD i sub0).1.toNat : Int)) ∧ (cellsL L)[i * 2 + 1]? = some (.string (S (L.getD i sub0).2))
  | [], _, h => by cases h
  | s :: t, 0, _ => ⟨rfl, rfl⟩
  | s :: t, i + 1, h => by
    have := cellsL_at t i (by simpa using h)
    have e : cellsL (s :: t) = .int .u8 (s.1.toNat : Int) :: .string (S s.2) :: cellsL t := rfl
    rw [e, show (i + 1) * 2 = i * 2 + 1 + 1 by omega, List.getElem?_cons_succ, List.getElem?_cons_succ, List.getElem?_cons_succ, List.getElem?_cons_succ]
    exact this
/-- A row of subfields of the call's own, nil while it is empty. -/
theorem QL.of_row {B : Nat} {v : Value} {L : List Sub} {w : World} (h : w.ownsRow B 57 2 v L.length (cellsL L)) : QL v L w := by
  rcases h.2 with ⟨rfl, h0⟩ | ⟨g, cap, cur, rfl, hb, hg, hc, hm, hs, ht⟩
  · have : L = [] := List.eq_nil_of_length_eq_zero h0
    subst this
    exact ⟨none, 0, rfl, Nat.le_refl _, Nat.zero_le _, fun _ => rfl, fun i hi => by cases hi⟩
  · refine ⟨_, cap, rfl, hc, hm, (fun h => by cases h), fun i hi => ⟨g, 0, rfl, (Array.getElem?_eq_some_iff.1 hg).1, ?_, ?_⟩⟩
    · have := h.cells (g := g) rfl _ _ (cellsL_at L i hi).1
      have hadd : (⟨g, 0, none⟩ : Addr).add (i * 2) = ⟨g, i * 2, none⟩ := by unfold Addr.add; split <;> simp_all
      rw [hadd] at this
      rw [Nat.zero_add]
      exact this
    · have := h.cells (g := g) rfl _ _ (cellsL_at L i hi).2
      have hadd : (⟨g, 0, none⟩ : Addr).add (i * 2 + 1) = ⟨g, i * 2 + 1, none⟩ := by unfold Addr.add; split <;> simp_all
      rw [hadd] at this
      rw [Nat.zero_add]
      exact this
theorem own_setCell {w : World} {B e size n : Nat} {v : Value} {xs : List Value} (h : w.ownsRow B e size v n xs) {p : Addr} (hp : p.block < B) (u : Value) : (w.setCell p u).ownsRow B e size v n xs := by
  refine ⟨h.1, ?_⟩
  rcases h.2 with hn | ⟨g, cap, cur, hv, hB', hg, rest⟩
  · exact .inl hn
  · exact .inr ⟨g, cap, cur, hv, hB', (Below.heap_setCell _ _ _ _ (by omega)).trans hg, rest⟩
theorem infoSub : (Tryd.prog.info? 57).map (fun i => (i.zero, i.size, i.bytes)) = some (some (.agg #[.int .u8 0, .string ⟨#[]⟩]), 2, 24) := by kernel_rfl
theorem info_sub : ∃ i0, Tryd.prog.info? 57 = some i0 ∧ i0.zero = some (.agg #[.int .u8 0, .string ⟨#[]⟩]) ∧ i0.size = 2 ∧ i0.bytes = 24 := by
  obtain ⟨i0, h0, h2⟩ := Option.map_eq_some_iff.1 infoSub
  simp only [Prod.mk.injEq] at h2
  exact ⟨i0, h0, h2.1, h2.2.1, h2.2.2⟩
theorem cells_two (w : World) (x y : Value) (t : TypeId) : ∀ j u, [x, y][j]? = some u → (w.alloc (.cells #[x, y] t)).cell? ((⟨w.heap.size, 0, none⟩ : Addr).add j) = some u := by
  intro j u hj
  match j, hj with
  | 0, hj => simp at hj; subst hj; simp [Addr.add]
  | 1, hj => simp at hj; subst hj; simp [Addr.add]
  | (j + 2), hj => simp at hj

/-- What Set has made of the first k subfields, and whether the value has its place. -/
def setK (L : List Sub) (c : UInt8) (v : List UInt8) : Nat → List Sub × Bool
  | 0 => ([], decide (v = []))
  | k + 1 => if (L.getD k sub0).1 ≠ c then ((setK L c v k).1 ++ [L.getD k sub0], (setK L c v k).2)
    else if v = [] then setK L c v k else if (setK L c v k).2 = true then ((setK L c v k).1 ++ [L.getD k sub0], true) else ((setK L c v k).1 ++ [(c, v)], true)
def setR (L : List Sub) (c : UInt8) (v : List UInt8) : List Sub :=
  if (setK L c v L.length).2 = true then (setK L c v L.length).1 else (setK L c v L.length).1 ++ [(c, v)]
theorem setK_le (L : List Sub) (c : UInt8) (v : List UInt8) : ∀ k, (setK L c v k).1.length ≤ k
  | 0 => Nat.le_refl _
  | k + 1 => by
    have h := setK_le L c v k
    rw [setK]
    split
    · simp; omega
    · split
      · omega
      · split <;> simp <;> omega

theorem own_form {w : World} {B e size n : Nat} {v : Value} {xs : List Value} (h : w.ownsRow B e size v n xs) : ∃ ao cp, v = .slice ao n cp := by
  rcases h.2 with ⟨h0, h1⟩ | ⟨g, cap, cur, hv, _⟩
  · exact ⟨none, 0, by rw [h0, h1]⟩
  · exact ⟨_, cap, hv⟩
/-- What Set's last steps meet, and where they end. -/
theorem set_end {w W0 wz : World} {f : Fld} {u0 v : Value} {L : List Sub} (hlt : w.heap.size < W0.heap.size) (hlt1 : w.heap.size + 1 < W0.heap.size) (b0 : Below w.heap.size w W0)
    (hF : W0.heap[w.heap.size]? = some (.cells #[.string (S f.tag), .string (S f.ind), u0, .int .i64 f.auth] 47 (0, 0)))
    (hR : W0.heap[w.heap.size + 1]? = some (.cells #[.string ⟨#[]⟩, .string ⟨#[]⟩, .slice none 0 0, .int .i64 0] 47 (0, 0)))
    (hb : Below W0.heap.size W0 wz) (hown : wz.ownsRow W0.heap.size 57 2 v L.length (cellsL L)) :
    (wz.cell? ⟨w.heap.size, 0, none⟩ = some (.string (S f.tag)) ∧ wz.cell? ⟨w.heap.size, 1, none⟩ = some (.string (S f.ind)) ∧ wz.cell? ⟨w.heap.size, 2, none⟩ = some u0 ∧ wz.cell? ⟨w.heap.size, 3, none⟩ = some (.int .i64 f.auth)) ∧
    wz.frozen? ⟨w.heap.size, 2, none⟩ = false ∧
    (wz.cell? ⟨w.heap.size + 1, 0, none⟩ = some (.string ⟨#[]⟩) ∧ wz.cell? ⟨w.heap.size + 1, 1, none⟩ = some (.string ⟨#[]⟩) ∧ wz.cell? ⟨w.heap.size + 1, 2, none⟩ = some (.slice none 0 0) ∧ wz.cell? ⟨w.heap.size + 1, 3, none⟩ = some (.int .i64 0)) ∧
    (wz.frozen? ⟨w.heap.size + 1, 0, none⟩ = false ∧ wz.frozen? ⟨w.heap.size + 1, 1, none⟩ = false ∧ wz.frozen? ⟨w.heap.size + 1, 2, none⟩ = false ∧ wz.frozen? ⟨w.heap.size + 1, 3, none⟩ = false) ∧
    RowKit.Hid ((((((wz.setCell ⟨w.heap.size, 2, none⟩ v).setCell ⟨w.heap.size + 1, 0, none⟩ (.string (S f.tag))).setCell ⟨w.heap.size + 1, 1, none⟩ (.string (S f.ind))).setCell ⟨w.heap.size + 1, 2, none⟩ v).setCell ⟨w.heap.size + 1, 3, none⟩ (.int .i64 f.auth)).heap[w.heap.size + 1]? = some (.cells #[.string (S f.tag), .string (S f.ind), v, .int .i64 f.auth] 47 (0, 0))) ∧
    RowKit.Hid (QL v L (((((wz.setCell ⟨w.heap.size, 2, none⟩ v).setCell ⟨w.heap.size + 1, 0, none⟩ (.string (S f.tag))).setCell ⟨w.heap.size + 1, 1, none⟩ (.string (S f.ind))).setCell ⟨w.heap.size + 1, 2, none⟩ v).setCell ⟨w.heap.size + 1, 3, none⟩ (.int .i64 f.auth))) ∧ RowKit.Hid (Below w.heap.size w (((((wz.setCell ⟨w.heap.size, 2, none⟩ v).setCell ⟨w.heap.size + 1, 0, none⟩ (.string (S f.tag))).setCell ⟨w.heap.size + 1, 1, none⟩ (.string (S f.ind))).setCell ⟨w.heap.size + 1, 2, none⟩ v).setCell ⟨w.heap.size + 1, 3, none⟩ (.int .i64 f.auth))) := by
  have zF := (hb.block _ hlt).trans hF
  have zR := (hb.block _ hlt1).trans hR
  refine ⟨⟨?_, ?_, ?_, ?_⟩, Lib.frozen_of_heap zF 2, ⟨?_, ?_, ?_, ?_⟩, ⟨Lib.frozen_of_heap zR 0, Lib.frozen_of_heap zR 1, Lib.frozen_of_heap zR 2, Lib.frozen_of_heap zR 3⟩, ?_, ?_, ?_⟩
  · rw [Lib.cell_of_heap zF]; rfl
  · rw [Lib.cell_of_heap zF]; rfl
  · rw [Lib.cell_of_heap zF]; rfl
  · rw [Lib.cell_of_heap zF]; rfl
  · rw [Lib.cell_of_heap zR]; rfl
  · rw [Lib.cell_of_heap zR]; rfl
  · rw [Lib.cell_of_heap zR]; rfl
  · rw [Lib.cell_of_heap zR]; rfl
  · show (((((wz.setCell ⟨w.heap.size, 2, none⟩ v).setCell ⟨w.heap.size + 1, 0, none⟩ (.string (S f.tag))).setCell ⟨w.heap.size + 1, 1, none⟩ (.string (S f.ind))).setCell ⟨w.heap.size + 1, 2, none⟩ v).setCell ⟨w.heap.size + 1, 3, none⟩ (.int .i64 f.auth)).heap[w.heap.size + 1]? = _
    simp [World.setCell, Array.getElem?_modify, zR]
  · exact QL.of_row (own_setCell (own_setCell (own_setCell (own_setCell (own_setCell hown (p := ⟨w.heap.size, 2, none⟩) hlt _) (p := ⟨w.heap.size + 1, 0, none⟩) hlt1 _) (p := ⟨w.heap.size + 1, 1, none⟩) hlt1 _) (p := ⟨w.heap.size + 1, 2, none⟩) hlt1 _) (p := ⟨w.heap.size + 1, 3, none⟩) hlt1 _)
  · exact (((((b0.trans (hb.mono b0.size)).setCell (p := ⟨w.heap.size, 2, none⟩) (Nat.le_refl _) _).setCell (p := ⟨w.heap.size + 1, 0, none⟩) (Nat.le_succ _) _).setCell (p := ⟨w.heap.size + 1, 1, none⟩) (Nat.le_succ _) _).setCell (p := ⟨w.heap.size + 1, 2, none⟩) (Nat.le_succ _) _).setCell (p := ⟨w.heap.size + 1, 3, none⟩) (Nat.le_succ _) _

end Go.Proofs.YtjfdolmcecgdgaaDoor
