/- Slices of rules (TL) and of problems (PL) wherever they lie; rows of problems of the call's own (PR). -/
import Derived.Test.YtjfdolmcecgdgaaDoorPlain09
import Derived.Test.YtjfdolmcecgdgaaDoorBL
import Derived.Laws.AppendOwn
import Derived.OwnWalk
import Derived.Laws.AppendOwnNone
namespace Go.Proofs.YtjfdolmcecgdgaaDoor
open Go.RowKit

/-- What lies at one rule's place. -/
structure RuAt (g o : Nat) (t : Rul) (w : World) : Prop where
  c0 : w.cell? ⟨g, o, none⟩ = some (.string (S t.tag))
  c1 : w.cell? ⟨g, o + 1, none⟩ = some (.bool t.rep)
  c2 : w.cell? ⟨g, o + 2, none⟩ = some (.bool t.must)
  c3 : w.cell? ⟨g, o + 3, none⟩ = some (.string (S t.codes))
  c4 : w.cell? ⟨g, o + 4, none⟩ = some (.string (S t.once))
  c5 : w.cell? ⟨g, o + 5, none⟩ = some (.string (S t.needs))
  c6 : w.cell? ⟨g, o + 6, none⟩ = some (.int .i64 t.auth)
theorem RuAt.after {g o : Nat} {t : Rul} {w w' : World} (h : RuAt g o t w) (hg : g < w.heap.size) (hb : Below w.heap.size w w') : RuAt g o t w' :=
  ⟨(hb.cell (p := ⟨g, o, none⟩) hg).trans h.c0, (hb.cell (p := ⟨g, o + 1, none⟩) hg).trans h.c1, (hb.cell (p := ⟨g, o + 2, none⟩) hg).trans h.c2, (hb.cell (p := ⟨g, o + 3, none⟩) hg).trans h.c3,
    (hb.cell (p := ⟨g, o + 4, none⟩) hg).trans h.c4, (hb.cell (p := ⟨g, o + 5, none⟩) hg).trans h.c5, (hb.cell (p := ⟨g, o + 6, none⟩) hg).trans h.c6⟩
/-- A rule's value. -/
def UV (t : Rul) : Value := .agg #[.string (S t.tag), .bool t.rep, .bool t.must, .string (S t.codes), .string (S t.once), .string (S t.needs), .int .i64 t.auth]
/-- A slice of these rules. -/
def TL (v : Value) (L : List Rul) (w : World) : Prop :=
  ∃ a cap, v = .slice a L.length cap ∧ L.length ≤ cap ∧ cap ≤ maxLen ∧ (a = none → cap = 0) ∧ ∀ i, i < L.length → ∃ g o, a = some ⟨g, o, none⟩ ∧ g < w.heap.size ∧ RuAt g (o + i * 7) (L.getD i rul0) w
theorem TL.after {v : Value} {L : List Rul} {w w' : World} (h : TL v L w) (hb : Below w.heap.size w w') : TL v L w' := by
  obtain ⟨a, cap, rfl, hc, hm, hn, hx⟩ := h
  refine ⟨a, cap, rfl, hc, hm, hn, fun i hi => ?_⟩
  obtain ⟨g, o, rfl, hg, h0⟩ := hx i hi
  exact ⟨g, o, rfl, Nat.lt_of_lt_of_le hg hb.size, h0.after hg hb⟩
theorem TL.length {v : Value} {L : List Rul} {w : World} (h : TL v L w) : ∃ a cap, v = .slice a L.length cap ∧ L.length ≤ cap ∧ cap ≤ maxLen := by
  obtain ⟨a, cap, h1, h2, h3, _⟩ := h
  exact ⟨a, cap, h1, h2, h3⟩
theorem TL.at {v : Value} {L : List Rul} {w : World} (h : TL v L w) (k : Nat) (hk : k < L.length) : ∃ g o cap, v = .slice (some ⟨g, o, none⟩) L.length cap ∧ g < w.heap.size ∧ RuAt g (o + k * 7) (L.getD k rul0) w := by
  obtain ⟨a, cap, rfl, hc, hm, hn, hx⟩ := h
  obtain ⟨g, o, rfl, hh⟩ := hx k hk
  exact ⟨g, o, cap, rfl, hh⟩
theorem TL.nil (w : World) : TL (.slice none 0 0) [] w := ⟨none, 0, rfl, Nat.le_refl _, Nat.zero_le _, fun _ => rfl, fun i hi => by cases hi⟩

/-! Problems. -/
def encP (p : Prb) : List Value := [.int .i64 p.kind, .int .i64 p.index, .string (S p.tag), .int .u8 (p.code.toNat : Int)]
def cellsP : List Prb → List Value
  | [] => []
  | p :: t => encP p ++ cellsP t
theorem cellsP_app : ∀ L M : List Prb, cellsP (L ++ M) = cellsP L ++ cellsP M
  | [], M => rfl
  | a :: s, M => by simp only [List.cons_append, cellsP, cellsP_app s M, List.append_assoc]
theorem cellsP_length : ∀ L : List Prb, (cellsP L).length = L.length * 4
  | [] => rfl
  | f :: t => by
    simp only [cellsP, List.length_append, cellsP_length t, encP, List.length_cons, List.length_nil]
    omega
theorem cellsP_at : ∀ (L : List Prb) (i : Nat), i < L.length → (cellsP L)[i * 4]? = some (.int .i64 (L.getD i prb0).kind) ∧ (cellsP L)[i * 4 + 1]? = some (.int .i64 (L.getD i prb0).index) ∧
    (cellsP L)[i * 4 + 2]? = some (.string (S (L.getD i prb0).tag)) ∧ (cellsP L)[i * 4 + 3]? = some (.int .u8 ((L.getD i prb0).code.toNat : Int))
  | [], _, h => by cases h
  | a :: s, 0, _ => ⟨rfl, rfl, rfl, rfl⟩
  | a :: s, i + 1, h => by
    have := cellsP_at s i (by simpa using h)
    have e : cellsP (a :: s) = .int .i64 a.kind :: .int .i64 a.index :: .string (S a.tag) :: .int .u8 (a.code.toNat : Int) :: cellsP s := rfl
    rw [e, show (i + 1) * 4 = i * 4 + 1 + 1 + 1 + 1 by omega]
    simp only [List.getElem?_cons_succ]
    exact this
theorem cellsP_one : ∀ (L : List Prb), ∀ u ∈ cellsP L, u.oneCell' = true
  | [], u, hu => by simp [cellsP] at hu
  | f :: t, u, hu => by
    simp only [cellsP, List.mem_append, encP, List.mem_cons, List.not_mem_nil, or_false] at hu
    rcases hu with (rfl | rfl | rfl | rfl) | hu
    · rfl
    · rfl
    · rfl
    · rfl
    · exact cellsP_one t u hu
/-- What lies at one problem's place. -/
structure PrAt (g o : Nat) (p : Prb) (w : World) : Prop where
  c0 : w.cell? ⟨g, o, none⟩ = some (.int .i64 p.kind)
  c1 : w.cell? ⟨g, o + 1, none⟩ = some (.int .i64 p.index)
  c2 : w.cell? ⟨g, o + 2, none⟩ = some (.string (S p.tag))
  c3 : w.cell? ⟨g, o + 3, none⟩ = some (.int .u8 (p.code.toNat : Int))
theorem PrAt.after {g o : Nat} {t : Prb} {w w' : World} (h : PrAt g o t w) (hg : g < w.heap.size) (hb : Below w.heap.size w w') : PrAt g o t w' :=
  ⟨(hb.cell (p := ⟨g, o, none⟩) hg).trans h.c0, (hb.cell (p := ⟨g, o + 1, none⟩) hg).trans h.c1, (hb.cell (p := ⟨g, o + 2, none⟩) hg).trans h.c2, (hb.cell (p := ⟨g, o + 3, none⟩) hg).trans h.c3⟩
/-- A problem's value. -/
def PV (p : Prb) : Value := .agg #[.int .i64 p.kind, .int .i64 p.index, .string (S p.tag), .int .u8 (p.code.toNat : Int)]
/-- A slice of these problems. -/
def PL (v : Value) (L : List Prb) (w : World) : Prop :=
  ∃ a cap, v = .slice a L.length cap ∧ L.length ≤ cap ∧ cap ≤ maxLen ∧ (a = none → cap = 0) ∧ ∀ i, i < L.length → ∃ g o, a = some ⟨g, o, none⟩ ∧ g < w.heap.size ∧ PrAt g (o + i * 4) (L.getD i prb0) w
theorem PL.after {v : Value} {L : List Prb} {w w' : World} (h : PL v L w) (hb : Below w.heap.size w w') : PL v L w' := by
  obtain ⟨a, cap, rfl, hc, hm, hn, hx⟩ := h
  refine ⟨a, cap, rfl, hc, hm, hn, fun i hi => ?_⟩
  obtain ⟨g, o, rfl, hg, h0⟩ := hx i hi
  exact ⟨g, o, rfl, Nat.lt_of_lt_of_le hg hb.size, h0.after hg hb⟩
theorem PL.length {v : Value} {L : List Prb} {w : World} (h : PL v L w) : ∃ a cap, v = .slice a L.length cap ∧ L.length ≤ cap ∧ cap ≤ maxLen := by
  obtain ⟨a, cap, h1, h2, h3, _⟩ := h
  exact ⟨a, cap, h1, h2, h3⟩
theorem PL.at {v : Value} {L : List Prb} {w : World} (h : PL v L w) (k : Nat) (hk : k < L.length) : ∃ g o cap, v = .slice (some ⟨g, o, none⟩) L.length cap ∧ g < w.heap.size ∧ PrAt g (o + k * 4) (L.getD k prb0) w := by
  obtain ⟨a, cap, rfl, hc, hm, hn, hx⟩ := h
  obtain ⟨g, o, rfl, hh⟩ := hx k hk
  exact ⟨g, o, cap, rfl, hh⟩
/-- Nothing, or these cells at an address: what is appended. -/
theorem PL.none_or {v : Value} {L : List Prb} {w : World} (h : PL v L w) : (v = .slice none 0 0 ∧ L = []) ∨ ∃ ad cap, v = .slice (some ad) L.length cap ∧ L.length ≤ cap ∧ cap ≤ maxLen ∧ ∀ j u, (cellsP L)[j]? = some u → w.cell? (ad.add j) = some u := by
  obtain ⟨a, cap, rfl, hc, hm, hn, hx⟩ := h
  cases a with
  | none =>
    obtain rfl := hn rfl
    have hl : L = [] := List.eq_nil_of_length_eq_zero (by omega)
    subst hl
    exact .inl ⟨rfl, rfl⟩
  | some ad =>
    refine .inr ⟨ad, cap, rfl, hc, hm, fun j u hj => ?_⟩
    have hjl : j < L.length * 4 := by
      have := (List.getElem?_eq_some_iff.1 hj).1
      rwa [cellsP_length] at this
    obtain ⟨g, o, he, _, hcell⟩ := hx (j / 4) (by omega)
    obtain rfl := Option.some.inj he
    have hat := cellsP_at L (j / 4) (by omega)
    have hadd : (⟨g, o, none⟩ : Addr).add j = ⟨g, o + j, none⟩ := by unfold Addr.add; split <;> simp_all
    rw [hadd]
    obtain ⟨h0, h1, h2, h3⟩ := hcell
    have hq : j = j / 4 * 4 + j % 4 := by omega
    have hr : j % 4 < 4 := by omega
    generalize j / 4 = q at *
    generalize j % 4 = r at *
    subst hq
    rw [show o + (q * 4 + r) = o + q * 4 + r by omega]
    match r, hr with
    | 0, _ => rw [Nat.add_zero] at hj ⊢; rw [hat.1] at hj; rw [h0]; exact hj
    | 1, _ => rw [hat.2.1] at hj; rw [h1]; exact hj
    | 2, _ => rw [hat.2.2.1] at hj; rw [h2]; exact hj
    | 3, _ => rw [hat.2.2.2] at hj; rw [h3]; exact hj
/-- A row of these problems of the call's own, from block B on, nil while it is empty. -/
def PR (B : Nat) (v : Value) (L : List Prb) (w : World) : Prop := w.ownsRow B 44 4 v L.length (cellsP L)
theorem PR.nil (w : World) (B : Nat) : PR B (.slice none 0 0) [] w := World.ownsRow_nil _ _ _ _
theorem PR.empty (w : World) (B : Nat) (h : B ≤ w.heap.size) : PR B (.slice (some ⟨w.heap.size, 0, none⟩) 0 0) [] (w.alloc (.cells #[] 44)) :=
  World.ownsRow_made w #[] 0 h (Nat.zero_le _) rfl
theorem PR.after {B : Nat} {v : Value} {L : List Prb} {w w' : World} (h : PR B v L w) (hb : Below w.heap.size w w') : PR B v L w' := own_after h hb
theorem PR.mono {B B' : Nat} {v : Value} {L : List Prb} {w : World} (h : PR B v L w) (hB : B' ≤ B) : PR B' v L w := by
  refine ⟨h.1, ?_⟩
  rcases h.2 with hn | ⟨g, cap, cur, hv, hB', rest⟩
  · exact .inl hn
  · exact .inr ⟨g, cap, cur, hv, Nat.le_trans hB hB', rest⟩
theorem PR.pl {B : Nat} {v : Value} {L : List Prb} {w : World} (h : PR B v L w) : PL v L w := by
  rcases h.2 with ⟨rfl, h0⟩ | ⟨g, cap, cur, rfl, hb, hg, hc, hm, hs, ht⟩
  · have : L = [] := List.eq_nil_of_length_eq_zero h0
    subst this
    exact ⟨none, 0, rfl, Nat.le_refl _, Nat.zero_le _, fun _ => rfl, fun i hi => by cases hi⟩
  · have hadd : ∀ j, (⟨g, 0, none⟩ : Addr).add j = ⟨g, j, none⟩ := fun j => by unfold Addr.add; split <;> simp_all
    refine ⟨_, cap, rfl, hc, hm, (fun h => by cases h), fun i hi => ?_⟩
    have hcc := cellsP_at L i hi
    have t0 := World.ownsRow.cells h (g := g) rfl _ _ hcc.1
    have t1 := World.ownsRow.cells h (g := g) rfl _ _ hcc.2.1
    have t2 := World.ownsRow.cells h (g := g) rfl _ _ hcc.2.2.1
    have t3 := World.ownsRow.cells h (g := g) rfl _ _ hcc.2.2.2
    rw [hadd] at t0 t1 t2 t3
    refine ⟨g, 0, rfl, (Array.getElem?_eq_some_iff.1 hg).1, ?_⟩
    rw [Nat.zero_add]
    exact ⟨t0, t1, t2, t3⟩
theorem infoPrb : (Tryd.prog.info? 44).map (fun i => (i.zero, i.size, i.bytes)) = some (some (.agg #[.int .i64 0, .int .i64 0, .string ⟨#[]⟩, .int .u8 0]), 4, 40) := by kernel_rfl
theorem info_prb : ∃ i0, Tryd.prog.info? 44 = some i0 ∧ i0.zero = some (.agg #[.int .i64 0, .int .i64 0, .string ⟨#[]⟩, .int .u8 0]) ∧ i0.size = 4 ∧ i0.bytes = 40 := by
  obtain ⟨i0, h0, h2⟩ := Option.map_eq_some_iff.1 infoPrb
  simp only [Prod.mk.injEq] at h2
  exact ⟨i0, h0, h2.1, h2.2.1, h2.2.2⟩
/-- append of a slice of problems to a row of the call's own. -/
theorem append_pr {ops : Array Oper} {rest : List Oper} {o : Oper} {a : Act} {Q : Exit → Act → World → Prop} (w : World) (hgd : o.guard = none) (s x : Operand)
    (ho : o.op = .call { callee := .builtin .append, args := #[s, x], argTypes := #[39, 39] })
    (B : Nat) (v : Value) (L : List Prb) (hs : a.eval s = v) (hr : PR B v L w) (u : Value) (M : List Prb) (hx : a.eval x = u) (hM : PL u M w)
    (hz : L.length + M.length ≤ 1000000) (hB : B ≤ w.heap.size) (N : Nat) (W1 : World) (hNB : N ≤ B) (hb : Below N W1 w)
    (h : ∀ v' w', PR B v' (L ++ M) w' → Below N W1 w' → B ≤ w'.heap.size → w.heap.size ≤ w'.heap.size → wpList Tryd.prog ops Q rest (a.put o.dst v') w') : wpList Tryd.prog ops Q (o :: rest) a w := by
  obtain ⟨i0, hi, hz0, hz1, hz2⟩ := info_prb
  rcases hM.none_or with ⟨rfl, rfl⟩ | ⟨ad, cap, rfl, hc, hm, hcell⟩
  · refine wpList_append_own_none hgd s x _ ho B _ i0 4 Tryd.underlying39 hi v L.length (cellsP L) hs hr hx (h v w ?_ hb hB (Nat.le_refl _))
    rw [List.append_nil]; exact hr
  · refine wpList_append_own w hgd s x _ ho B _ i0 (.agg #[.int .i64 0, .int .i64 0, .string ⟨#[]⟩, .int .u8 0]) 4 40 Tryd.underlying39 hi hz0 hz1 hz2 rfl (by decide) v L.length (cellsP L) hs hr ad M.length cap (cellsP M) hx
      (cellsP_length M) hcell (cellsP_one M) (by unfold maxLen; omega) (by omega) hB fun v' w' hown' hgrow hnil => h v' w' ?_ ?_ ?_ hgrow.size
    · unfold PR
      rw [cellsP_app, List.length_append]
      exact hown'
    · exact hb.grown hgrow (by have := hb.size; omega) (fun j hj => Nat.le_trans hNB (World.ownsRow.lt hr j hj).1)
    · exact Nat.le_trans hB hgrow.size
theorem PL.one (w : World) (p : Prb) : PL (.slice (some ⟨w.heap.size, 0, none⟩) 1 1) [p] (w.alloc (.cells #[.int .i64 p.kind, .int .i64 p.index, .string (S p.tag), .int .u8 (p.code.toNat : Int)] 44)) :=
  ⟨_, 1, rfl, Nat.le_refl _, by unfold maxLen; decide, (fun h => by cases h), fun i hi => by
    obtain rfl : i = 0 := by simpa using hi
    exact ⟨w.heap.size, 0, rfl, by simp, ⟨by simp, by simp, by simp, by simp⟩⟩⟩
end Go.Proofs.YtjfdolmcecgdgaaDoor
