/- Merged: R07I, SB14, FG07. -/
import Derived.Test.YtceneblmllpdnaaDoorQ03
import Derived.Lib.Builder
import Derived.Test.YtceneblmllpdnaaDoorQ10
import Derived.Lib.SliceRun
import Derived.Laws.IdiomCopy
namespace Go.Proofs.YtceneblmllpdnaaDoor

section
open Go.RowKit Go.PlainAid
def encS (s : Sub) : List Value := [.int .u8 (s.1.toNat : Int), .string (S s.2)]
def cellsL (L : List Sub) : List Value := L.flatMap encS
theorem cellsL_snoc (M : List Sub) (s : Sub) : cellsL (M ++ [s]) = cellsL M ++ encS s := by simp [cellsL]
theorem cellsL_at : ∀ (L : List Sub) (i : Nat), i < L.length → (cellsL L)[i * 2]? = some (.int .u8 ((L.getD i sub0).1.toNat : Int)) ∧ (cellsL L)[i * 2 + 1]? = some (.string (S (L.getD i sub0).2))
  | [], _, h => by cases h
  | s :: t, 0, _ => ⟨rfl, rfl⟩
  | s :: t, i + 1, h => by
    have := cellsL_at t i (by simpa using h)
    have e : cellsL (s :: t) = .int .u8 (s.1.toNat : Int) :: .string (S s.2) :: cellsL t := rfl
    rw [e, show (i + 1) * 2 = i * 2 + 1 + 1 by omega, List.getElem?_cons_succ, List.getElem?_cons_succ, List.getElem?_cons_succ, List.getElem?_cons_succ]
    exact this
/-- A row of subfields of the call's own, nil while it is empty. -/
theorem QL.of_row {B : Nat} {v : Value} {L : List Sub} {w : World} (h : w.ownsRow B 65 2 v L.length (cellsL L)) : QL v L w := by
  rcases h.2 with ⟨rfl, h0⟩ | ⟨g, cap, cur, rfl, hb, hg, hc, hm, hs, ht⟩
  · have : L = [] := List.eq_nil_of_length_eq_zero h0
    subst this
    exact ⟨none, 0, rfl, Nat.le_refl _, Nat.zero_le _, fun _ => rfl, fun i hi => by cases hi⟩
  · refine ⟨_, cap, rfl, hc, hm, (fun h => by cases h), fun i hi => ⟨g, 0, rfl, (Array.getElem?_eq_some_iff.1 hg).1, ?_, ?_⟩⟩
    · have := h.cells (g := g) rfl _ _ (cellsL_at L i hi).1
      have hadd : (⟨g, 0, none⟩ : Addr).add (i * 2) = ⟨g, i * 2, none⟩ := by unfold Addr.add; split <;> simp_all
      rw [hadd] at this
      rw [Nat.zero_add]
      exact this
    · have := h.cells (g := g) rfl _ _ (cellsL_at L i hi).2
      have hadd : (⟨g, 0, none⟩ : Addr).add (i * 2 + 1) = ⟨g, i * 2 + 1, none⟩ := by unfold Addr.add; split <;> simp_all
      rw [hadd] at this
      rw [Nat.zero_add]
      exact this
theorem own_setCell {w : World} {B e size n : Nat} {v : Value} {xs : List Value} (h : w.ownsRow B e size v n xs) {p : Addr} (hp : p.block < B) (u : Value) : (w.setCell p u).ownsRow B e size v n xs := by
  refine ⟨h.1, ?_⟩
  rcases h.2 with hn | ⟨g, cap, cur, hv, hB', hg, rest⟩
  · exact .inl hn
  · exact .inr ⟨g, cap, cur, hv, hB', (Below.heap_setCell _ _ _ _ (by omega)).trans hg, rest⟩
theorem infoSub : (Tryd.prog.info? 65).map (fun i => (i.zero, i.size, i.bytes)) = some (some (.agg #[.int .u8 0, .string ⟨#[]⟩]), 2, 24) := by kernel_rfl
theorem info_sub : ∃ i0, Tryd.prog.info? 65 = some i0 ∧ i0.zero = some (.agg #[.int .u8 0, .string ⟨#[]⟩]) ∧ i0.size = 2 ∧ i0.bytes = 24 := by
  obtain ⟨i0, h0, h2⟩ := Option.map_eq_some_iff.1 infoSub
  simp only [Prod.mk.injEq] at h2
  exact ⟨i0, h0, h2.1, h2.2.1, h2.2.2⟩
theorem cells_two (w : World) (x y : Value) (t : TypeId) : ∀ j u, [x, y][j]? = some u → (w.alloc (.cells #[x, y] t)).cell? ((⟨w.heap.size, 0, none⟩ : Addr).add j) = some u := by
  intro j u hj
  match j, hj with
  | 0, hj => simp at hj; subst hj; simp [Addr.add]
  | 1, hj => simp at hj; subst hj; simp [Addr.add]
  | (j + 2), hj => simp at hj

/-- What Set has made of the first k subfields, and whether the value has its place. -/
def setK (L : List Sub) (c : UInt8) (v : List UInt8) : Nat → List Sub × Bool
  | 0 => ([], decide (v = []))
  | k + 1 => if (L.getD k sub0).1 ≠ c then ((setK L c v k).1 ++ [L.getD k sub0], (setK L c v k).2)
    else if v = [] then setK L c v k else if (setK L c v k).2 = true then ((setK L c v k).1 ++ [L.getD k sub0], true) else ((setK L c v k).1 ++ [(c, v)], true)
def setR (L : List Sub) (c : UInt8) (v : List UInt8) : List Sub :=
  if (setK L c v L.length).2 = true then (setK L c v L.length).1 else (setK L c v L.length).1 ++ [(c, v)]
theorem setK_le (L : List Sub) (c : UInt8) (v : List UInt8) : ∀ k, (setK L c v k).1.length ≤ k
  | 0 => Nat.le_refl _
  | k + 1 => by
    have h := setK_le L c v k
    rw [setK]
    split
    · simp; omega
    · split
      · omega
      · split <;> simp <;> omega

theorem own_form {w : World} {B e size n : Nat} {v : Value} {xs : List Value} (h : w.ownsRow B e size v n xs) : ∃ ao cp, v = .slice ao n cp := by
  rcases h.2 with ⟨h0, h1⟩ | ⟨g, cap, cur, hv, _⟩
  · exact ⟨none, 0, by rw [h0, h1]⟩
  · exact ⟨_, cap, hv⟩
/-- What Set's last steps meet, and where they end. -/
theorem set_end {w W0 wz : World} {f : Fld} {u0 v : Value} {L : List Sub} (hlt : w.heap.size < W0.heap.size) (hlt1 : w.heap.size + 1 < W0.heap.size) (b0 : Below w.heap.size w W0)
    (hF : W0.heap[w.heap.size]? = some (.cells #[.string (S f.tag), .string (S f.ind), u0, .int .i64 f.auth] 45 (0, 0)))
    (hR : W0.heap[w.heap.size + 1]? = some (.cells #[.string ⟨#[]⟩, .string ⟨#[]⟩, .slice none 0 0, .int .i64 0] 45 (0, 0)))
    (hb : Below W0.heap.size W0 wz) (hown : wz.ownsRow W0.heap.size 65 2 v L.length (cellsL L)) :
    (wz.cell? ⟨w.heap.size, 0, none⟩ = some (.string (S f.tag)) ∧ wz.cell? ⟨w.heap.size, 1, none⟩ = some (.string (S f.ind)) ∧ wz.cell? ⟨w.heap.size, 2, none⟩ = some u0 ∧ wz.cell? ⟨w.heap.size, 3, none⟩ = some (.int .i64 f.auth)) ∧
    wz.frozen? ⟨w.heap.size, 2, none⟩ = false ∧
    (wz.cell? ⟨w.heap.size + 1, 0, none⟩ = some (.string ⟨#[]⟩) ∧ wz.cell? ⟨w.heap.size + 1, 1, none⟩ = some (.string ⟨#[]⟩) ∧ wz.cell? ⟨w.heap.size + 1, 2, none⟩ = some (.slice none 0 0) ∧ wz.cell? ⟨w.heap.size + 1, 3, none⟩ = some (.int .i64 0)) ∧
    (wz.frozen? ⟨w.heap.size + 1, 0, none⟩ = false ∧ wz.frozen? ⟨w.heap.size + 1, 1, none⟩ = false ∧ wz.frozen? ⟨w.heap.size + 1, 2, none⟩ = false ∧ wz.frozen? ⟨w.heap.size + 1, 3, none⟩ = false) ∧
    RowKit.Hid ((((((wz.setCell ⟨w.heap.size, 2, none⟩ v).setCell ⟨w.heap.size + 1, 0, none⟩ (.string (S f.tag))).setCell ⟨w.heap.size + 1, 1, none⟩ (.string (S f.ind))).setCell ⟨w.heap.size + 1, 2, none⟩ v).setCell ⟨w.heap.size + 1, 3, none⟩ (.int .i64 f.auth)).heap[w.heap.size + 1]? = some (.cells #[.string (S f.tag), .string (S f.ind), v, .int .i64 f.auth] 45 (0, 0))) ∧
    RowKit.Hid (QL v L (((((wz.setCell ⟨w.heap.size, 2, none⟩ v).setCell ⟨w.heap.size + 1, 0, none⟩ (.string (S f.tag))).setCell ⟨w.heap.size + 1, 1, none⟩ (.string (S f.ind))).setCell ⟨w.heap.size + 1, 2, none⟩ v).setCell ⟨w.heap.size + 1, 3, none⟩ (.int .i64 f.auth))) ∧ RowKit.Hid (Below w.heap.size w (((((wz.setCell ⟨w.heap.size, 2, none⟩ v).setCell ⟨w.heap.size + 1, 0, none⟩ (.string (S f.tag))).setCell ⟨w.heap.size + 1, 1, none⟩ (.string (S f.ind))).setCell ⟨w.heap.size + 1, 2, none⟩ v).setCell ⟨w.heap.size + 1, 3, none⟩ (.int .i64 f.auth))) := by
  have zF := (hb.block _ hlt).trans hF
  have zR := (hb.block _ hlt1).trans hR
  refine ⟨⟨?_, ?_, ?_, ?_⟩, Lib.frozen_of_heap zF 2, ⟨?_, ?_, ?_, ?_⟩, ⟨Lib.frozen_of_heap zR 0, Lib.frozen_of_heap zR 1, Lib.frozen_of_heap zR 2, Lib.frozen_of_heap zR 3⟩, ?_, ?_, ?_⟩
  · rw [Lib.cell_of_heap zF]; rfl
  · rw [Lib.cell_of_heap zF]; rfl
  · rw [Lib.cell_of_heap zF]; rfl
  · rw [Lib.cell_of_heap zF]; rfl
  · rw [Lib.cell_of_heap zR]; rfl
  · rw [Lib.cell_of_heap zR]; rfl
  · rw [Lib.cell_of_heap zR]; rfl
  · rw [Lib.cell_of_heap zR]; rfl
  · show (((((wz.setCell ⟨w.heap.size, 2, none⟩ v).setCell ⟨w.heap.size + 1, 0, none⟩ (.string (S f.tag))).setCell ⟨w.heap.size + 1, 1, none⟩ (.string (S f.ind))).setCell ⟨w.heap.size + 1, 2, none⟩ v).setCell ⟨w.heap.size + 1, 3, none⟩ (.int .i64 f.auth)).heap[w.heap.size + 1]? = _
    simp [World.setCell, Array.getElem?_modify, zR]
  · exact QL.of_row (own_setCell (own_setCell (own_setCell (own_setCell (own_setCell hown (p := ⟨w.heap.size, 2, none⟩) hlt _) (p := ⟨w.heap.size + 1, 0, none⟩) hlt1 _) (p := ⟨w.heap.size + 1, 1, none⟩) hlt1 _) (p := ⟨w.heap.size + 1, 2, none⟩) hlt1 _) (p := ⟨w.heap.size + 1, 3, none⟩) hlt1 _)
  · exact (((((b0.trans (hb.mono b0.size)).setCell (p := ⟨w.heap.size, 2, none⟩) (Nat.le_refl _) _).setCell (p := ⟨w.heap.size + 1, 0, none⟩) (Nat.le_succ _) _).setCell (p := ⟨w.heap.size + 1, 1, none⟩) (Nat.le_succ _) _).setCell (p := ⟨w.heap.size + 1, 2, none⟩) (Nat.le_succ _) _).setCell (p := ⟨w.heap.size + 1, 3, none⟩) (Nat.le_succ _) _
end

section
open Go.RowKit
/-- A slice of subfields of the call's own, from block B on. -/
def SB (B : Nat) (v : Value) (L : List Sub) (w : World) : Prop := w.ownsRow B 65 2 v L.length (cellsL L)
theorem SB.nil (B : Nat) (w : World) : SB B (.slice none 0 0) [] w := World.ownsRow_nil _ _ _ _
theorem SB.ql {B : Nat} {v : Value} {L : List Sub} {w : World} (h : SB B v L w) : QL v L w := QL.of_row h
theorem own_after14 {w w' : World} {B e size n : Nat} {v : Value} {xs : List Value} (h : w.ownsRow B e size v n xs) (hb : Below w.heap.size w w') : w'.ownsRow B e size v n xs := by
  refine ⟨h.1, ?_⟩
  rcases h.2 with hn | ⟨g, cap, cur, hv, hB', hg, rest⟩
  · exact .inl hn
  · have hlt : g < w.heap.size := (Array.getElem?_eq_some_iff.1 hg).1
    exact .inr ⟨g, cap, cur, hv, hB', (hb.block g hlt).trans hg, rest⟩
theorem SB.after {B : Nat} {v : Value} {L : List Sub} {w w' : World} (h : SB B v L w) (hb : Below w.heap.size w w') : SB B v L w' := own_after14 h hb
theorem SB.kept {B : Nat} {v : Value} {L : List Sub} {w W : World} (h : SB B v L w) (hk : ∀ i, B ≤ i → i < w.heap.size → W.heap[i]? = w.heap[i]?) : SB B v L W := by
  refine ⟨h.1, ?_⟩
  rcases h.2 with hn | ⟨g, cap, cur, hv, hB', hg, rest⟩
  · exact .inl hn
  · have hlt : g < w.heap.size := (Array.getElem?_eq_some_iff.1 hg).1
    exact .inr ⟨g, cap, cur, hv, hB', (hk g hB' hlt).trans hg, rest⟩
theorem SB.base {B B' : Nat} {v : Value} {L : List Sub} {w : World} (h : SB B' v L w) (hB : B ≤ B') : SB B v L w := by
  refine ⟨h.1, ?_⟩
  rcases h.2 with hn | ⟨g, cap, cur, hv, hB', rest⟩
  · exact .inl hn
  · exact .inr ⟨g, cap, cur, hv, Nat.le_trans hB hB', rest⟩
theorem SB.form {B : Nat} {v : Value} {L : List Sub} {w : World} (h : SB B v L w) : ∃ ao cp, v = .slice ao L.length cp := own_form h
/-- append of one subfield that has just been laid to such a row. -/
theorem append_sb {ops : Array Oper} {rest : List Oper} {o : Oper} {a : Act} {Q : Exit → Act → World → Prop} (w : World) (hgd : o.guard = none) (s x : Operand)
    (ho : o.op = .call { callee := .builtin .append, args := #[s, x], argTypes := #[43, 43] })
    (B : Nat) (v : Value) (L : List Sub) (c : UInt8) (y : List UInt8) (hs : a.eval s = v) (h : SB B v L w) (hx : a.eval x = .slice (some ⟨w.heap.size, 0, none⟩) 1 1) (hz : L.length ≤ 10000000) (hB : B ≤ w.heap.size)
    (N : Nat) (W1 : World) (hNB : N ≤ B) (hb : Below N W1 w)
    (hk : ∀ v' w', SB B v' (L ++ [(c, y)]) w' → Below N W1 w' → B ≤ w'.heap.size → wpList Tryd.prog ops Q rest (a.put o.dst v') w') : wpList Tryd.prog ops Q (o :: rest) a (w.alloc (.cells #[.int .u8 (c.toNat : Int), .string (S y)] 65)) := by
  obtain ⟨i0, hi, hz0, hz1, hz2⟩ := info_sub
  have hrow := World.ownsRow.alloc h (.cells #[.int .u8 (c.toNat : Int), .string (S y)] 65)
  refine wpList_append_own _ hgd s x 43 ho B 65 i0 (.agg #[.int .u8 0, .string ⟨#[]⟩]) 2 24 Tryd.underlying43 hi hz0 hz1 hz2 rfl (by decide) v L.length _ hs hrow ⟨w.heap.size, 0, none⟩ 1 1 [.int .u8 (c.toNat : Int), .string (S y)] hx rfl (cells_two w _ _ _) (by intro u hu; simp at hu; rcases hu with rfl | rfl <;> rfl) (by unfold maxLen; omega) (by omega) (by simp; omega) ?_
  intro v2 w2 hown2 hg2 hn2
  refine hk v2 w2 (by unfold SB; rw [List.length_append, cellsL_snoc]; exact hown2) ?_ (Nat.le_trans (by simp; omega) hg2.size)
  exact (hb.alloc (by omega) _).grown hg2 (by simp; omega) (fun j hj => Nat.le_trans hNB (hrow.lt j hj).1)
theorem SB.one (w : World) (c : UInt8) (y : List UInt8) : SB w.heap.size (.slice (some ⟨w.heap.size, 0, none⟩) 1 1) [(c, y)] (w.alloc (.cells #[.int .u8 (c.toNat : Int), .string (S y)] 65)) :=
  ⟨rfl, .inr ⟨w.heap.size, 1, _, rfl, Nat.le_refl _, heap_alloc_new w _, Nat.le_refl _, by decide, rfl, rfl⟩⟩
theorem SB.two (w : World) (c d : UInt8) (x y : List UInt8) : SB w.heap.size (.slice (some ⟨w.heap.size, 0, none⟩) 2 2) [(c, x), (d, y)] (w.alloc (.cells #[.int .u8 (c.toNat : Int), .string (S x), .int .u8 (d.toNat : Int), .string (S y)] 65)) :=
  ⟨rfl, .inr ⟨w.heap.size, 2, _, rfl, Nat.le_refl _, heap_alloc_new w _, Nat.le_refl _, by decide, rfl, rfl⟩⟩
end

section
open Go.RowKit Go.PlainAid
theorem cellsL_length : ∀ L : List Sub, (cellsL L).length = L.length * 2
  | [] => rfl
  | s :: t => by
    have := cellsL_length t
    show (encS s ++ cellsL t).length = _
    rw [List.length_append, this, List.length_cons]
    simp only [encS, List.length_cons, List.length_nil]
    omega
theorem cellsL_one (L : List Sub) : ∀ u ∈ cellsL L, u.oneCell' = true := by
  intro u hu
  unfold cellsL at hu
  rw [List.mem_flatMap] at hu
  obtain ⟨s, _, hs⟩ := hu
  simp only [encS, List.mem_cons, List.not_mem_nil, or_false] at hs
  rcases hs with rfl | rfl <;> rfl
theorem QL.at {a : Addr} {n cap : Nat} {L : List Sub} {w : World} (h : QL (.slice (some a) n cap) L w) : ∀ j u, (cellsL L)[j]? = some u → w.cell? (a.add j) = some u := by
  obtain ⟨ao, cap', he, hc, hm, hn, hx⟩ := h
  simp only [Value.slice.injEq] at he
  obtain ⟨rfl, rfl, rfl⟩ := he
  intro j u hj
  have hlt : j < L.length * 2 := by
    have := (List.getElem?_eq_some_iff.1 hj).1
    rwa [cellsL_length] at this
  obtain ⟨g, o, he, hg, c1, c2⟩ := hx (j / 2) (by omega)
  obtain rfl := Option.some.inj he
  have hat := cellsL_at L (j / 2) (by omega)
  have hadd : (⟨g, o, none⟩ : Addr).add j = ⟨g, o + j, none⟩ := by unfold Addr.add; split <;> simp_all
  rw [hadd]
  rcases Nat.mod_two_eq_zero_or_one j with h | h
  · rw [show j = j / 2 * 2 by omega] at hj ⊢
    rw [hat.1] at hj
    rw [c1]
    exact hj
  · rw [show j = j / 2 * 2 + 1 by omega] at hj ⊢
    rw [hat.2] at hj
    rw [show o + (j / 2 * 2 + 1) = o + j / 2 * 2 + 1 by omega, c2]
    exact hj

set_option maxHeartbeats 8000000 in
theorem clone_any (L : List Sub) (u : Value) (w : World) (hu : QL u L w) (hs : L.length ≤ 100000) :
    Calls Tryd.prog 46 #[u] w fun e w' => ∃ v', e = .returned v' ∧ w'.ownsRow w.heap.size 65 2 v' L.length (cellsL L) ∧ Below w.heap.size w w' := by
  have q22 : ∀ (w : World) (a : Option Addr) (n c n' c' : Nat), (binOp .eql 43 (.slice a n c) (.slice none n' c')).run Tryd.prog w = .ok (.bool a.isNone) w := fun w a n c n' c' => Lib.run_eql_slice_nil w _ _ a n c n' c' Tryd.underlying43
  obtain ⟨i0, hi, hz0, hz1, hz2⟩ := info_sub
  obtain ⟨a, cap, rfl, hcap, hmax, hn, _⟩ := id hu
  cases a with
  | none =>
    obtain rfl := hn rfl
    have h0 : L = [] := List.eq_nil_of_length_eq_zero (by omega)
    subst h0
    clear hu
    go_enter Tryd.func46, Tryd.ntmps46
    go_wp2
    go_ret
    exact ⟨_, rfl, World.ownsRow_nil _ _ _ _, Below.refl _ _⟩
  | some ad =>
    have hc := hu.at
    have hc' : ∀ (o : Obj) j x, (cellsL L)[j]? = some x → (w.alloc o).cell? (ad.add j) = some x := fun o j x hj => Lib.cell?_alloc_some _ (hc j x hj)
    have HC := Lib.hid hc'
    have h1 := Lib.hid (cellsL_one L)
    have hl := Lib.hid (cellsL_length L)
    have HI := Lib.hid hi
    have HZ0 := Lib.hid hz0
    have HZ1 := Lib.hid hz1
    have HZ2 := Lib.hid hz2
    unfold maxLen at hmax
    clear hu hc hc' hi hz0 hz1 hz2
    generalize L.length = n at *
    go_enter Tryd.func46, Tryd.ntmps46
    go_wp2_with (at_builtin; refine wpList_append_own _ rfl _ _ 43 rfl w.heap.size 65 i0 (.agg #[.int .u8 0, .string ⟨#[]⟩]) 2 24 Tryd.underlying43 HI.out HZ0.out HZ1.out HZ2.out rfl (by decide) _ _ _ rfl (World.ownsRow_made w #[] 0 (Nat.le_refl _) (Nat.zero_le _) (by simp)) ad n cap (cellsL L) rfl ?qc1 ?qc2 ?qc3 ?qc4 ?qc5 ?qc6 ?_)
    case qc1 => exact hl.out
    case qc2 => exact HC.out _
    case qc3 => exact h1.out
    case qc4 => rw [Nat.zero_add]; unfold maxLen; omega
    case qc5 => rw [Nat.zero_add]; omega
    case qc6 => simp
    intro v' w1 hown hgrow hnil
    have hb := ((Below.refl _ w).alloc (Nat.le_refl _) (.cells #[] 65)).grown hgrow (by simp) (by intro k hk; simp [Value.ownBlock] at hk; omega)
    obtain ⟨ao, cp, rfl⟩ := own_form hown
    go_wp2
    go_ret
    exact ⟨_, rfl, by simpa using hown, hb⟩

/-! Stores into a row of one's own. -/
theorem own_set {w : World} {B e size n g cap p : Nat} {xs : List Value} (h : w.ownsRow B e size (.slice (some ⟨g, 0, none⟩) n cap) n xs) (x : Value) :
    (w.setCell ⟨g, p, none⟩ x).ownsRow B e size (.slice (some ⟨g, 0, none⟩) n cap) n (xs.set p x) := by
  refine ⟨by rw [List.length_set]; exact h.1, ?_⟩
  rcases h.2 with ⟨h0, _⟩ | ⟨g', cap', cur, hv, hb, hg, hc, hm, hs, ht⟩
  · cases h0
  · simp only [Value.slice.injEq, Option.some.injEq, Addr.mk.injEq] at hv
    obtain ⟨⟨rfl, _⟩, _, rfl⟩ := hv
    refine .inr ⟨g, cap, cur.setIfInBounds p x, rfl, hb, ?_, hc, hm, by simpa using hs, ?_⟩
    · simp [World.setCell, Array.getElem?_modify, hg]
    · rw [Array.toList_setIfInBounds, List.take_set, ht]
theorem own_shrink {w : World} {B e size n i g cap : Nat} {xs : List Value} (h : w.ownsRow B e size (.slice (some ⟨g, 0, none⟩) n cap) n xs) (hi : i ≤ n) :
    w.ownsRow B e size (.slice (some ⟨g, 0, none⟩) i cap) i (xs.take (i * size)) := by
  have hle : i * size ≤ n * size := Nat.mul_le_mul_right _ hi
  refine ⟨by rw [List.length_take, h.1]; omega, ?_⟩
  rcases h.2 with ⟨h0, _⟩ | ⟨g', cap', cur, hv, hb, hg, hc, hm, hs, ht⟩
  · cases h0
  · simp only [Value.slice.injEq, Option.some.injEq, Addr.mk.injEq] at hv
    obtain ⟨⟨rfl, _⟩, _, rfl⟩ := hv
    refine .inr ⟨g, cap, cur, rfl, hb, hg, Nat.le_trans hi hc, hm, hs, ?_⟩
    rw [← ht, List.take_take, Nat.min_eq_left hle]
theorem own_setCells {B e size n g cap : Nat} : ∀ (zs : List Value) (o : Nat) (w : World) (xs : List Value), w.ownsRow B e size (.slice (some ⟨g, 0, none⟩) n cap) n xs → o + zs.length ≤ n * size →
    ∃ ys, (w.setCells g o zs).ownsRow B e size (.slice (some ⟨g, 0, none⟩) n cap) n ys ∧ ys.take o = xs.take o
  | [], o, w, xs, h, _ => ⟨xs, h, rfl⟩
  | z :: zs, o, w, xs, h, hl => by
    simp only [List.length_cons] at hl
    obtain ⟨ys, h1, h2⟩ := own_setCells zs (o + 1) (w.setCell ⟨g, o, none⟩ z) (xs.set o z) (own_set h z) (by omega)
    refine ⟨ys, h1, ?_⟩
    have h3 := congrArg (List.take o) h2
    rw [List.take_take, List.take_take, Nat.min_eq_left (by omega)] at h3
    rw [h3, List.take_set, List.set_eq_of_length_le (by rw [List.length_take]; omega)]
theorem setCells_below {B g : Nat} (hB : B ≤ g) : ∀ (zs : List Value) (o : Nat) (a w : World), Below B a w → Below B a (w.setCells g o zs)
  | [], _, _, _, h => h
  | z :: zs, o, a, w, h => setCells_below hB zs (o + 1) a (w.setCell ⟨g, o, none⟩ z) (h.setCell (p := ⟨g, o, none⟩) hB z)
theorem own_facts {w : World} {B e size n g cap : Nat} {xs : List Value} (h : w.ownsRow B e size (.slice (some ⟨g, 0, none⟩) n cap) n xs) :
    B ≤ g ∧ g < w.heap.size ∧ n ≤ cap ∧ cap ≤ maxLen ∧ (∀ p, w.frozen? ⟨g, p, none⟩ = false) ∧ (∀ p, p < n * size → (w.cell? ⟨g, p, none⟩).isSome = true) := by
  rcases h.2 with ⟨h0, _⟩ | ⟨g', cap', cur, hv, hb, hg, hc, hm, hs, ht⟩
  · cases h0
  · simp only [Value.slice.injEq, Option.some.injEq, Addr.mk.injEq] at hv
    obtain ⟨⟨rfl, _⟩, _, rfl⟩ := hv
    refine ⟨hb, (Array.getElem?_eq_some_iff.1 hg).1, hc, hm, fun p => Lib.frozen_of_heap hg p, fun p hp => ?_⟩
    have hle : n * size ≤ cap * size := Nat.mul_le_mul_right _ hc
    rw [Lib.cell_of_heap hg]
    have : p < cur.size := by omega
    simp [this]
/-- clear of a part of a row of subfields. -/
theorem run_clear (w : World) (b o n c : Nat) (hn : 0 < n) (hc : ∀ j, j < n * 2 → (w.cell? ⟨b, o + j, none⟩).isSome = true) (hf : ∀ j, j < n * 2 → w.frozen? ⟨b, o + j, none⟩ = false) :
    ∃ zs : List Value, zs.length = n * 2 ∧ ∀ ty, (Builtin.clear_ #[43] ty #[.slice (some ⟨b, o, none⟩) n c]).run Tryd.prog w = .ok (.tuple #[]) (w.setCells b o zs) := by
  obtain ⟨zs, hzs⟩ : ∃ zs, (Builtin.zeroCells #[.int .u8 0, .string ⟨#[]⟩] n).toList = zs := ⟨_, rfl⟩
  have hl : zs.length = n * 2 := by rw [← hzs]; simp [Builtin.zeroCells]
  have hone : ∀ v ∈ zs, v.oneCell' = true := by
    intro v hv
    rw [← hzs] at hv
    simp only [Builtin.zeroCells, Array.toList_map, Array.toList_range, List.mem_map] at hv
    obtain ⟨i, _, rfl⟩ := hv
    have : i % (#[Value.int .u8 0, Value.string ⟨#[]⟩] : Array Value).size = 0 ∨ i % (#[Value.int .u8 0, Value.string ⟨#[]⟩] : Array Value).size = 1 := Nat.mod_two_eq_zero_or_one i
    rcases this with h | h <;> rw [h] <;> rfl
  refine ⟨zs, hl, fun ty => ?_⟩
  have hst := run_storeCells_cells (P := Tryd.prog) b o zs 0 w (by simpa [hl] using hc) (by simpa [hl] using hf) hone
  simp only [Nat.add_zero] at hst
  obtain ⟨m, rfl⟩ : ∃ m, n = m + 1 := ⟨n - 1, by omega⟩
  have hv : ∀ w, (zeroValue 65).run Tryd.prog w = .ok (.agg #[.int .u8 0, .string ⟨#[]⟩]) w := fun w => by kernel_rfl
  have hcells : (Value.agg #[.int .u8 0, .string ⟨#[]⟩]).cells = #[.int .u8 0, .string ⟨#[]⟩] := by rfl
  simp [Builtin.clear_, run_underlying Tryd.underlying43, hv, hcells, hzs, hst]

/-! What DeleteFunc keeps. -/
def keepL (c : UInt8) (L : List Sub) : List Sub := L.filter fun s => decide (s.1 ≠ c)
theorem keepL_all (c : UInt8) (L : List Sub) (h : ∀ j, j < L.length → (L.getD j sub0).1 ≠ c) : keepL c L = L := by
  unfold keepL
  rw [List.filter_eq_self]
  intro s hs
  obtain ⟨j, hj, rfl⟩ := List.getElem_of_mem hs
  have := h j hj
  rw [List.getD_eq_getElem?_getD, List.getElem?_eq_getElem hj] at this
  simpa using this
theorem take_snoc (L : List Sub) (j : Nat) (h : j < L.length) : L.take (j + 1) = L.take j ++ [L.getD j sub0] := by
  rw [List.take_succ_eq_append_getElem h, List.getD_eq_getElem?_getD, List.getElem?_eq_getElem h]
  rfl
theorem keepL_snoc (c : UInt8) (L : List Sub) (j : Nat) (h : j < L.length) : keepL c (L.take (j + 1)) = keepL c (L.take j) ++ (if (L.getD j sub0).1 ≠ c then [L.getD j sub0] else []) := by
  rw [take_snoc L j h]
  unfold keepL
  rw [List.filter_append]
  congr 1
  generalize L.getD j sub0 = x
  by_cases hc : x.1 ≠ c
  · rw [if_pos hc]; simp [hc]
  · rw [if_neg hc]; simp [Decidable.not_not.1 hc]
/-- The row, in which i of the first j subfields are kept. -/
structure KI (c : UInt8) (L : List Sub) (i j : Nat) (M : List Sub) : Prop where
  len : M.length = L.length
  le : j ≤ L.length
  lt : i < j
  low : M.take i = keepL c (L.take j)
  high : ∀ p, j ≤ p → p < L.length → M.getD p sub0 = L.getD p sub0
theorem KI.start (c : UInt8) (L : List Sub) (k : Nat) (hk : k < L.length) (hj : ∀ j, j < k → (L.getD j sub0).1 ≠ c) (he : (L.getD k sub0).1 = c) : KI c L k (k + 1) L := by
  refine ⟨rfl, hk, Nat.lt_succ_self k, ?_, fun _ _ _ => rfl⟩
  rw [keepL_snoc c L k hk, if_neg (fun h => h he), List.append_nil]
  symm
  refine keepL_all c _ (fun j hj' => ?_)
  rw [List.length_take] at hj'
  have := hj j (by omega)
  rwa [List.getD_eq_getElem?_getD, List.getElem?_take_of_lt (by omega), ← List.getD_eq_getElem?_getD]
theorem KI.skip {c : UInt8} {L M : List Sub} {i j : Nat} (h : KI c L i j M) (hj : j < L.length) (he : (L.getD j sub0).1 = c) : KI c L i (j + 1) M := by
  refine ⟨h.len, hj, Nat.lt_succ_of_lt h.lt, ?_, fun p hp hl => h.high p (by omega) hl⟩
  rw [keepL_snoc c L j hj, if_neg (fun h => h he), List.append_nil, h.low]
theorem KI.keep {c : UInt8} {L M : List Sub} {i j : Nat} (h : KI c L i j M) (hj : j < L.length) (he : (L.getD j sub0).1 ≠ c) : KI c L (i + 1) (j + 1) (M.set i (L.getD j sub0)) := by
  have hi := h.lt
  have hil : i < M.length := by rw [h.len]; omega
  refine ⟨by rw [List.length_set, h.len], hj, by omega, ?_, fun p hp hl => ?_⟩
  · rw [keepL_snoc c L j hj, if_pos he, ← h.low]
    have e : (M.set i (L.getD j sub0)).take (i + 1) = (M.set i (L.getD j sub0)).take i ++ [(M.set i (L.getD j sub0)).getD i sub0] := take_snoc _ i (by rw [List.length_set]; exact hil)
    rw [e, List.take_set, List.set_eq_of_length_le (by rw [List.length_take]; omega)]
    congr 1
    rw [List.getD_eq_getElem?_getD, List.getElem?_set_self hil]
    rfl
  · have := h.high p (by omega) hl
    rw [List.getD_eq_getElem?_getD] at this ⊢
    rw [List.getElem?_set_ne (by omega)]
    exact this
theorem cellsL_set : ∀ (M : List Sub) (i : Nat) (s : Sub), i < M.length → cellsL (M.set i s) = ((cellsL M).set (i * 2) (.int .u8 (s.1.toNat : Int))).set (i * 2 + 1) (.string (S s.2))
  | [], _, _, h => by cases h
  | x :: t, 0, s, _ => rfl
  | x :: t, i + 1, s, h => by
    have ih := cellsL_set t i s (by simpa using h)
    have e : cellsL (x :: t) = .int .u8 (x.1.toNat : Int) :: .string (S x.2) :: cellsL t := rfl
    show cellsL (x :: t.set i s) = _
    have e2 : cellsL (x :: t.set i s) = .int .u8 (x.1.toNat : Int) :: .string (S x.2) :: cellsL (t.set i s) := rfl
    rw [e2, ih, e, show (i + 1) * 2 = i * 2 + 1 + 1 by omega]
    rfl
theorem cellsL_take : ∀ (M : List Sub) (i : Nat), (cellsL M).take (i * 2) = cellsL (M.take i)
  | [], i => by simp [cellsL]
  | x :: t, 0 => by simp [cellsL]
  | x :: t, i + 1 => by
    have ih := cellsL_take t i
    have e : cellsL (x :: t) = .int .u8 (x.1.toNat : Int) :: .string (S x.2) :: cellsL t := rfl
    have e2 : cellsL (x :: t.take i) = .int .u8 (x.1.toNat : Int) :: .string (S x.2) :: cellsL (t.take i) := rfl
    rw [List.take_succ_cons, e2, ← ih, e, show (i + 1) * 2 = i * 2 + 1 + 1 by omega]
    rfl
end

end Go.Proofs.YtceneblmllpdnaaDoor
