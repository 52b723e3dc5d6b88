/- Merged: FL, R08A, R08B, News, KD14. -/
import Derived.Test.YthjdopnoophigaaGreatDoorQ10
import Derived.Test.YthjdopnoophigaaGreatDoorQ01
import Derived.Laws.AppendOwn
import Derived.OwnWalk
import Derived.Laws.AppendOwnNone
import Derived.Deep.RegionLaw
import Derived.RegionTactic
import Derived.BigRegion
import Derived.Test.YthjdopnoophigaaGreatDoorQ03
import Derived.Laws.ResultCell
import Derived.Test.YthjdopnoophigaaGreatDoorQ20
import Derived.Deep.CutBlock
import Derived.Deep.DeepCutAuto
namespace Go.Proofs.YthjdopnoophigaaGreatDoor

section
open Go.RowKit
/-- A slice of these fields. -/
def FL (v : Value) (L : List Fld) (w : World) : Prop :=
  ∃ a cap, v = .slice a L.length cap ∧ L.length ≤ cap ∧ cap ≤ maxLen ∧ (a = none → cap = 0) ∧ ∀ i, i < L.length → ∃ g o u, a = some ⟨g, o, none⟩ ∧ g < w.heap.size ∧
    w.cell? ⟨g, o + i * 4, none⟩ = some (.string (S (L.getD i fd0).tag)) ∧ w.cell? ⟨g, o + i * 4 + 1, none⟩ = some (.string (S (L.getD i fd0).ind)) ∧
    w.cell? ⟨g, o + i * 4 + 2, none⟩ = some u ∧ w.cell? ⟨g, o + i * 4 + 3, none⟩ = some (.int .i64 (L.getD i fd0).auth) ∧ QL u (L.getD i fd0).subs w
theorem FL.after {v : Value} {L : List Fld} {w w' : World} (h : FL v L w) (hb : Below w.heap.size w w') : FL v L w' := by
  obtain ⟨a, cap, rfl, hc, hm, hn, hx⟩ := h
  refine ⟨a, cap, rfl, hc, hm, hn, fun i hi => ?_⟩
  obtain ⟨g, o, u, rfl, hg, h0, h1, h2, h3, hq⟩ := hx i hi
  exact ⟨g, o, u, rfl, Nat.lt_of_lt_of_le hg hb.size, (hb.cell (p := ⟨g, o + i * 4, none⟩) hg).trans h0, (hb.cell (p := ⟨g, o + i * 4 + 1, none⟩) hg).trans h1,
    (hb.cell (p := ⟨g, o + i * 4 + 2, none⟩) hg).trans h2, (hb.cell (p := ⟨g, o + i * 4 + 3, none⟩) hg).trans h3, hq.after hb⟩
theorem FL.length {v : Value} {L : List Fld} {w : World} (h : FL v L w) : ∃ a cap, v = .slice a L.length cap ∧ L.length ≤ cap ∧ cap ≤ maxLen := by
  obtain ⟨a, cap, h1, h2, h3, _⟩ := h
  exact ⟨a, cap, h1, h2, h3⟩
/-- What lies at one field's place. -/
theorem FL.at {v : Value} {L : List Fld} {w : World} (h : FL v L w) (k : Nat) (hk : k < L.length) : ∃ g o cap u, v = .slice (some ⟨g, o, none⟩) L.length cap ∧ g < w.heap.size ∧
    w.cell? ⟨g, o + k * 4, none⟩ = some (.string (S (L.getD k fd0).tag)) ∧ w.cell? ⟨g, o + k * 4 + 1, none⟩ = some (.string (S (L.getD k fd0).ind)) ∧
    w.cell? ⟨g, o + k * 4 + 2, none⟩ = some u ∧ w.cell? ⟨g, o + k * 4 + 3, none⟩ = some (.int .i64 (L.getD k fd0).auth) ∧ QL u (L.getD k fd0).subs w := by
  obtain ⟨a, cap, rfl, hc, hm, hn, hx⟩ := h
  obtain ⟨g, o, u, rfl, hh⟩ := hx k hk
  exact ⟨g, o, cap, u, rfl, hh⟩
/-- A record. -/
def RV (r : Rec) (u : Value) : Value := .agg #[.int .i64 r.id, .int .i64 r.ver, .int .i64 r.kind, .string (S r.lang), u]

/-! Rows of the call's own. -/
def encF (f : Fld) (u : Value) : List Value := [.string (S f.tag), .string (S f.ind), u, .int .i64 f.auth]
def cellsF : List Fld → List Value → List Value
  | f :: t, u :: us => encF f u ++ cellsF t us
  | _, _ => []
theorem cellsF_snoc : ∀ (L : List Fld) (us : List Value) (f : Fld) (u : Value), us.length = L.length → cellsF (L ++ [f]) (us ++ [u]) = cellsF L us ++ encF f u
  | [], [], f, u, _ => by simp [cellsF]
  | a :: s, x :: xs, f, u, h => by
    have := cellsF_snoc s xs f u (by simpa using h)
    simp only [List.cons_append, cellsF, this, List.append_assoc]
theorem cellsF_app : ∀ (L : List Fld) (us : List Value) (M : List Fld) (vs : List Value), us.length = L.length → cellsF (L ++ M) (us ++ vs) = cellsF L us ++ cellsF M vs
  | [], [], M, vs, _ => by simp [cellsF]
  | a :: s, x :: xs, M, vs, h => by
    have := cellsF_app s xs M vs (by simpa using h)
    simp only [List.cons_append, cellsF, this, List.append_assoc]
theorem cellsF_at : ∀ (L : List Fld) (us : List Value) (i : Nat), us.length = L.length → i < L.length → (cellsF L us)[i * 4]? = some (.string (S (L.getD i fd0).tag)) ∧ (cellsF L us)[i * 4 + 1]? = some (.string (S (L.getD i fd0).ind)) ∧
    (cellsF L us)[i * 4 + 2]? = some (us.getD i .nilIface) ∧ (cellsF L us)[i * 4 + 3]? = some (.int .i64 (L.getD i fd0).auth)
  | [], _, _, _, h => by cases h
  | a :: s, x :: xs, 0, _, _ => ⟨rfl, rfl, rfl, rfl⟩
  | a :: s, x :: xs, i + 1, hl, h => by
    have := cellsF_at s xs i (by simpa using hl) (by simpa using h)
    have e : cellsF (a :: s) (x :: xs) = .string (S a.tag) :: .string (S a.ind) :: x :: .int .i64 a.auth :: cellsF s xs := rfl
    rw [e, show (i + 1) * 4 = i * 4 + 1 + 1 + 1 + 1 by omega]
    simp only [List.getElem?_cons_succ]
    exact this
theorem cellsF_length : ∀ (L : List Fld) (us : List Value), us.length = L.length → (cellsF L us).length = L.length * 4
  | [], _, _ => by simp [cellsF]
  | f :: t, u :: us, h => by
    have := cellsF_length t us (by simpa using h)
    simp only [cellsF, List.length_append, this, encF, List.length_cons, List.length_nil]
    omega
theorem cellsF_news {g : Nat} {w : World} : ∀ (L : List Fld) (us : List Value) (o : Nat), us.length = L.length →
    (∀ i, i < L.length → w.cell? ⟨g, o + i * 4, none⟩ = some (.string (S (L.getD i fd0).tag)) ∧ w.cell? ⟨g, o + i * 4 + 1, none⟩ = some (.string (S (L.getD i fd0).ind)) ∧
      w.cell? ⟨g, o + i * 4 + 2, none⟩ = some (us.getD i .nilIface) ∧ w.cell? ⟨g, o + i * 4 + 3, none⟩ = some (.int .i64 (L.getD i fd0).auth)) →
    ∀ j u, (cellsF L us)[j]? = some u → w.cell? ⟨g, o + j, none⟩ = some u
  | [], _, _, _, _, j, u, hu => by simp [cellsF] at hu
  | f :: t, x :: xs, o, hl, h, j, u, hu => by
    have e : cellsF (f :: t) (x :: xs) = .string (S f.tag) :: .string (S f.ind) :: x :: .int .i64 f.auth :: cellsF t xs := rfl
    rw [e] at hu
    have h0 := h 0 (by simp)
    match j, hu with
    | 0, hu => simp at hu; subst hu; simpa using h0.1
    | 1, hu => simp at hu; subst hu; simpa using h0.2.1
    | 2, hu => simp at hu; subst hu; simpa using h0.2.2.1
    | 3, hu => simp at hu; subst hu; simpa using h0.2.2.2
    | j + 4, hu =>
      simp only [List.getElem?_cons_succ] at hu
      have := cellsF_news t xs (o + 4) (by simpa using hl) (fun i hi => by
        have := h (i + 1) (by simpa using hi)
        rw [show o + (i + 1) * 4 = o + 4 + i * 4 by omega] at this
        exact this) j u hu
      rwa [show o + 4 + j = o + (j + 4) by omega] at this
theorem QL.one {u : Value} {L : List Sub} {w : World} (h : QL u L w) : u.oneCell' = true := by
  obtain ⟨a, cap, rfl, _⟩ := h
  rfl
theorem cellsF_one : ∀ (L : List Fld) (us : List Value), (∀ u ∈ us, u.oneCell' = true) → ∀ u ∈ cellsF L us, u.oneCell' = true
  | [], _, _, u, hu => by simp [cellsF] at hu
  | f :: t, [], _, u, hu => by simp [cellsF] at hu
  | f :: t, x :: xs, h, u, hu => by
    simp only [cellsF, List.mem_append, encF, List.mem_cons, List.not_mem_nil, or_false] at hu
    rcases hu with (rfl | rfl | rfl | rfl) | hu
    · rfl
    · rfl
    · exact h _ (by simp)
    · rfl
    · exact cellsF_one t xs (fun y hy => h y (List.mem_cons_of_mem _ hy)) u hu
/-- A row of these fields of the call's own, from block B on, nil while it is empty; their subfields lie in W0. -/
def FQ (W0 : World) (B : Nat) (v : Value) (L : List Fld) (w : World) : Prop :=
  ∃ us : List Value, us.length = L.length ∧ w.ownsRow B 24 4 v L.length (cellsF L us) ∧ ∀ i, i < L.length → QL (us.getD i .nilIface) (L.getD i fd0).subs W0
theorem FQ.nil (W0 w : World) (B : Nat) : FQ W0 B (.slice none 0 0) [] w := ⟨[], rfl, World.ownsRow_nil _ _ _ _, fun i hi => by cases hi⟩
theorem FQ.empty (W0 w : World) (B : Nat) (h : B ≤ w.heap.size) : FQ W0 B (.slice (some ⟨w.heap.size, 0, none⟩) 0 0) [] (w.alloc (.cells #[] 24)) :=
  ⟨[], rfl, World.ownsRow_made w #[] 0 h (Nat.zero_le _) rfl, fun i hi => by cases hi⟩
theorem FQ.fl {W0 : World} {B : Nat} {v : Value} {L : List Fld} {w : World} (h : FQ W0 B v L w) (hbel : Below W0.heap.size W0 w) : FL v L w := by
  obtain ⟨us, hl, hown, hq⟩ := h
  rcases hown.2 with ⟨rfl, h0⟩ | ⟨g, cap, cur, rfl, hb, hg, hc, hm, hs, ht⟩
  · have : L = [] := List.eq_nil_of_length_eq_zero h0
    subst this
    exact ⟨none, 0, rfl, Nat.le_refl _, Nat.zero_le _, fun _ => rfl, fun i hi => by cases hi⟩
  · have hadd : ∀ j, (⟨g, 0, none⟩ : Addr).add j = ⟨g, j, none⟩ := fun j => by unfold Addr.add; split <;> simp_all
    refine ⟨_, cap, rfl, hc, hm, (fun h => by cases h), fun i hi => ?_⟩
    have hcc := cellsF_at L us i hl hi
    have t0 := hown.cells (g := g) rfl _ _ hcc.1
    have t1 := hown.cells (g := g) rfl _ _ hcc.2.1
    have t2 := hown.cells (g := g) rfl _ _ hcc.2.2.1
    have t3 := hown.cells (g := g) rfl _ _ hcc.2.2.2
    rw [hadd] at t0 t1 t2 t3
    refine ⟨g, 0, us.getD i .nilIface, rfl, (Array.getElem?_eq_some_iff.1 hg).1, ?_⟩
    rw [Nat.zero_add]
    exact ⟨t0, t1, t2, t3, (hq i hi).after hbel⟩
theorem FQ.after {W0 : World} {B : Nat} {v : Value} {L : List Fld} {w w' : World} (h : FQ W0 B v L w) (hb : Below w.heap.size w w') : FQ W0 B v L w' := by
  obtain ⟨us, h1, h2, h3⟩ := h
  exact ⟨us, h1, own_after h2 hb, h3⟩
theorem own_putF {w : World} {B e size n : Nat} {v : Value} {xs : List Value} (h : w.ownsRow B e size v n xs) {p : Addr} (hp : p.block < B) (u : Value) : (w.setCell p u).ownsRow B e size v n xs := by
  refine ⟨h.1, ?_⟩
  rcases h.2 with hn | ⟨g, cap, cur, hv, hB', hg, rest⟩
  · exact .inl hn
  · exact .inr ⟨g, cap, cur, hv, hB', (Below.heap_setCell _ _ _ _ (by omega)).trans hg, rest⟩
theorem FQ.put {W0 : World} {B : Nat} {v : Value} {L : List Fld} {w : World} (h : FQ W0 B v L w) {p : Addr} (hp : p.block < B) (u : Value) : FQ W0 B v L (w.setCell p u) := by
  obtain ⟨us, h1, h2, h3⟩ := h
  exact ⟨us, h1, own_putF h2 hp u, h3⟩
theorem getD_app (us vs : List Value) (i : Nat) : (us ++ vs).getD i .nilIface = if i < us.length then us.getD i .nilIface else vs.getD (i - us.length) .nilIface := by
  rw [List.getD_eq_getElem?_getD]
  by_cases h : i < us.length
  · rw [if_pos h, List.getElem?_append_left h, List.getD_eq_getElem?_getD]
  · rw [if_neg h, List.getElem?_append_right (by omega), List.getD_eq_getElem?_getD]
theorem getD_appF (us vs : List Fld) (i : Nat) : (us ++ vs).getD i fd0 = if i < us.length then us.getD i fd0 else vs.getD (i - us.length) fd0 := by
  rw [List.getD_eq_getElem?_getD]
  by_cases h : i < us.length
  · rw [if_pos h, List.getElem?_append_left h, List.getD_eq_getElem?_getD]
  · rw [if_neg h, List.getElem?_append_right (by omega), List.getD_eq_getElem?_getD]
/-- What the walk needs for an append to a row: its cells; and the longer row again. -/
theorem FQ.open {W0 : World} {B : Nat} {v : Value} {L : List Fld} {w : World} (h : FQ W0 B v L w) :
    ∃ xs : List Value, w.ownsRow B 24 4 v L.length xs ∧ ∀ (M : List Fld) (vs : List Value) (v' : Value) (w' : World), vs.length = M.length → (∀ i, i < M.length → QL (vs.getD i .nilIface) (M.getD i fd0).subs W0) →
      w'.ownsRow B 24 4 v' (L.length + M.length) (xs ++ cellsF M vs) → FQ W0 B v' (L ++ M) w' := by
  obtain ⟨us, hl, hown, hq⟩ := h
  refine ⟨_, hown, fun M vs v' w' hvl hvq hown' => ⟨us ++ vs, by rw [List.length_append, List.length_append, hl, hvl], ?_, fun i hi => ?_⟩⟩
  · rw [cellsF_app L us M vs hl, List.length_append]
    exact hown'
  · rw [getD_app, getD_appF, hl]
    by_cases h1 : i < L.length
    · rw [if_pos h1, if_pos h1]; exact hq i h1
    · rw [if_neg h1, if_neg h1]; exact hvq _ (by rw [List.length_append] at hi; omega)
/-- The subfields' values of a slice of fields. -/
theorem FL.vals {v : Value} {L : List Fld} {w : World} (h : FL v L w) : ∃ (a : Option Addr) (cap : Nat) (us : List Value), v = .slice a L.length cap ∧ L.length ≤ cap ∧ cap ≤ maxLen ∧ (a = none → cap = 0) ∧ us.length = L.length ∧ (∀ i, i < L.length → QL (us.getD i .nilIface) (L.getD i fd0).subs w) ∧
    ∀ i, i < L.length → ∃ g o, a = some ⟨g, o, none⟩ ∧ g < w.heap.size ∧ w.cell? ⟨g, o + i * 4, none⟩ = some (.string (S (L.getD i fd0).tag)) ∧ w.cell? ⟨g, o + i * 4 + 1, none⟩ = some (.string (S (L.getD i fd0).ind)) ∧
      w.cell? ⟨g, o + i * 4 + 2, none⟩ = some (us.getD i .nilIface) ∧ w.cell? ⟨g, o + i * 4 + 3, none⟩ = some (.int .i64 (L.getD i fd0).auth) := by
  obtain ⟨a, cap, rfl, hc, hm, hn, hx⟩ := h
  have hch : ∀ i, ∃ u, i < L.length → ∃ g o, a = some ⟨g, o, none⟩ ∧ g < w.heap.size ∧ w.cell? ⟨g, o + i * 4, none⟩ = some (.string (S (L.getD i fd0).tag)) ∧ w.cell? ⟨g, o + i * 4 + 1, none⟩ = some (.string (S (L.getD i fd0).ind)) ∧
      w.cell? ⟨g, o + i * 4 + 2, none⟩ = some u ∧ w.cell? ⟨g, o + i * 4 + 3, none⟩ = some (.int .i64 (L.getD i fd0).auth) ∧ QL u (L.getD i fd0).subs w := by
    intro i
    by_cases hi : i < L.length
    · obtain ⟨g, o, u, h1, h2⟩ := hx i hi
      exact ⟨u, fun _ => ⟨g, o, h1, h2⟩⟩
    · exact ⟨.nilIface, fun h => absurd h hi⟩
  obtain ⟨F, hF⟩ : ∃ F : Nat → Value, ∀ i, i < L.length → ∃ g o, a = some ⟨g, o, none⟩ ∧ g < w.heap.size ∧ w.cell? ⟨g, o + i * 4, none⟩ = some (.string (S (L.getD i fd0).tag)) ∧ w.cell? ⟨g, o + i * 4 + 1, none⟩ = some (.string (S (L.getD i fd0).ind)) ∧
      w.cell? ⟨g, o + i * 4 + 2, none⟩ = some (F i) ∧ w.cell? ⟨g, o + i * 4 + 3, none⟩ = some (.int .i64 (L.getD i fd0).auth) ∧ QL (F i) (L.getD i fd0).subs w := ⟨fun i => Classical.choose (hch i), fun i => Classical.choose_spec (hch i)⟩
  have hg : ∀ i, i < L.length → ((List.range L.length).map F).getD i .nilIface = F i := fun i hi => by
    rw [List.getD_eq_getElem?_getD, List.getElem?_map, List.getElem?_range hi]
    simp
  refine ⟨a, cap, (List.range L.length).map F, rfl, hc, hm, hn, by simp, fun i hi => ?_, fun i hi => ?_⟩
  · rw [hg i hi]
    obtain ⟨g, o, _, _, _, _, _, _, hq⟩ := hF i hi
    exact hq
  · rw [hg i hi]
    obtain ⟨g, o, h1, h2, h3, h4, h5, h6, _⟩ := hF i hi
    exact ⟨g, o, h1, h2, h3, h4, h5, h6⟩
theorem infoFld : (Tryz.prog.info? 24).map (fun i => (i.zero, i.size, i.bytes)) = some (some (.agg #[.string ⟨#[]⟩, .string ⟨#[]⟩, .slice none 0 0, .int .i64 0]), 4, 64) := by kernel_rfl
theorem info_fld : ∃ i0, Tryz.prog.info? 24 = some i0 ∧ i0.zero = some (.agg #[.string ⟨#[]⟩, .string ⟨#[]⟩, .slice none 0 0, .int .i64 0]) ∧ i0.size = 4 ∧ i0.bytes = 64 := by
  obtain ⟨i0, h0, h2⟩ := Option.map_eq_some_iff.1 infoFld
  simp only [Prod.mk.injEq] at h2
  exact ⟨i0, h0, h2.1, h2.2.1, h2.2.2⟩
/-- Fields that can be appended: nothing at no address, or these cells there. -/
def NW (W0 : World) (ao : Option Addr) (M : List Fld) (w : World) : Prop :=
  (ao = none → M = []) ∧ ∀ ad, ao = some ad → ∃ us : List Value, us.length = M.length ∧ (∀ i, i < M.length → QL (us.getD i .nilIface) (M.getD i fd0).subs W0) ∧ ∀ j u, (cellsF M us)[j]? = some u → w.cell? (ad.add j) = some u
/-- append of a slice of fields to a row of the call's own. -/
theorem append_fr {ops : Array Oper} {rest : List Oper} {o : Oper} {a : Act} {Q : Exit → Act → World → Prop} (w : World) (hgd : o.guard = none) (s x : Operand)
    (ho : o.op = .call { callee := .builtin .append, args := #[s, x], argTypes := #[31, 31] })
    (W0 : World) (B : Nat) (v : Value) (L : List Fld) (hs : a.eval s = v) (hfr : FQ W0 B v L w) (ao : Option Addr) (M : List Fld) (m c : Nat) (hx : a.eval x = .slice ao m c) (hm : M.length = m) (hc : ao = none → c = 0) (hN : NW W0 ao M w)
    (hz : L.length + M.length ≤ 100000) (hB : B ≤ w.heap.size) (N : Nat) (W1 : World) (hNB : N ≤ B) (hb : Below N W1 w)
    (h : ∀ v' w', FQ W0 B v' (L ++ M) w' → Below N W1 w' → B ≤ w'.heap.size → (v' = .slice none 0 0 ↔ v = .slice none 0 0 ∧ m = 0) → wpList Tryz.prog ops Q rest (a.put o.dst v') w') : wpList Tryz.prog ops Q (o :: rest) a w := by
  obtain ⟨i0, hi, hz0, hz1, hz2⟩ := info_fld
  obtain ⟨xs, hrow, hpush⟩ := hfr.open
  cases ao with
  | none =>
    obtain rfl := hN.1 rfl
    obtain rfl := hc rfl
    obtain rfl : m = 0 := hm.symm
    refine wpList_append_own_none hgd s x _ ho B _ i0 4 Tryz.underlying31 hi v L.length xs hs hrow hx (h v w ?_ hb hB ?_)
    · rw [List.append_nil]; exact hfr
    · simp
  | some ad =>
    obtain ⟨us, hl, hq, hcell⟩ := hN.2 ad rfl
    refine wpList_append_own w hgd s x _ ho B _ i0 (.agg #[.string ⟨#[]⟩, .string ⟨#[]⟩, .slice none 0 0, .int .i64 0]) 4 64 Tryz.underlying31 hi hz0 hz1 hz2 rfl (by decide) v L.length xs hs hrow ad m c (cellsF M us) hx
      (by rw [cellsF_length M us hl, hm]) hcell (cellsF_one M us fun u hu => ?_) (by unfold maxLen; omega) (by omega) hB fun v' w' hown' hgrow hnil => h v' w' ?_ ?_ ?_ hnil
    · obtain ⟨i, hi, rfl⟩ := List.mem_iff_getElem.1 hu
      have := (hq i (by omega)).one
      rwa [List.getD_eq_getElem?_getD, List.getElem?_eq_getElem hi] at this
    · rw [← hm] at hown'
      exact hpush M us v' w' hl hq hown'
    · exact hb.grown hgrow (by omega) (fun j hj => Nat.le_trans hNB (hrow.lt j hj).1)
    · exact Nat.le_trans hB hgrow.size
theorem cells_four (w : World) (a b c d : Value) (t : TypeId) : ∀ j u, [a, b, c, d][j]? = some u → (w.alloc (.cells #[a, b, c, d] t)).cell? ((⟨w.heap.size, 0, none⟩ : Addr).add j) = some u := by
  intro j u hj
  match j, hj with
  | 0, hj => simp at hj; subst hj; simp [Addr.add]
  | 1, hj => simp at hj; subst hj; simp [Addr.add]
  | 2, hj => simp at hj; subst hj; simp [Addr.add]
  | 3, hj => simp at hj; subst hj; simp [Addr.add]
  | (j + 4), hj => simp at hj
end

section
open Go.RowKit Go.PlainAid
set_option maxHeartbeats 8000000 in
theorem refSmallField_any (f : Fld) (u : Value) (w : World) (hu : QL u f.subs w) (b : Bool) (hb : smallFB f = b) :
    Calls Tryz.prog 7 #[FV f u] w fun e w' => e = .returned (.bool b) ∧ Below w.heap.size w w' := by
  obtain ⟨a, cap, rfl, hcap, hmax, _, hcell⟩ := hu
  unfold maxLen at hmax
  unfold FV
  unfold smallFB at hb
  have HT := Lib.hid (all_true sub0 (fun s : Sub => decide (s.2.length ≤ 300)) f.subs)
  have HF := Lib.hid (all_false sub0 (fun s : Sub => decide (s.2.length ≤ 300)) f.subs)
  generalize (f.subs.all fun s => decide (s.2.length ≤ 300)) = al at *
  obtain ⟨n, hn⟩ : ∃ n, f.subs.length = n := ⟨_, rfl⟩
  have HCell := Lib.hid hcell
  rw [hn] at hcap hb ⊢
  have HN := Lib.hid hn
  obtain ⟨W0, hW0⟩ : ∃ W0, w.alloc (.cells #[.string (S f.tag), .string (S f.ind), .slice a n cap, .int .i64 f.auth] 24) = W0 := ⟨_, rfl⟩
  have b0 : Below w.heap.size w W0 := by rw [← hW0]; exact (Below.refl w.heap.size w).alloc (Nat.le_refl _) _
  have k2 : W0.cell? ⟨w.heap.size, 2, none⟩ = some (.slice a n cap) := by rw [← hW0]; simp
  have HW0 := Lib.hid hW0
  clear hcell hn hW0
  by_cases h1 : 20 < n
  · rw [decide_eq_false (show ¬ n ≤ 20 by omega), Bool.false_and] at hb
    subst hb
    have d1 : decide ((20 : Int) < (n : Int)) = true := decide_eq_true (by omega)
    go_enter Tryz.func7, Tryz.ntmps7
    go_wp2
    go_ret
    rw [HW0.out]
    exact ⟨rfl, b0⟩
  rw [decide_eq_true (show n ≤ 20 by omega), Bool.true_and] at hb
  subst hb
  have d1 : decide ((20 : Int) < (n : Int)) = false := decide_eq_false (by omega)
  have hn20 : n ≤ 20 := by omega
  go_enter Tryz.func7, Tryz.ntmps7
  go_wp2
  rw [HW0.out]
  go_loopw [3] (fun i wr => ∃ k : Nat, k ≤ n ∧ i = .int .i64 (k : Int) ∧ RowKit.Hid (∀ j, j < k → (f.subs.getD j sub0).2.length ≤ 300) ∧ wr = W0) (fun i _ => n - (intOf i).toNat)
  case atStart => exact ⟨0, Nat.zero_le _, rfl, (fun j hj => by omega), rfl⟩
  case round =>
    obtain ⟨k, hk, rfl, HJ, hwr⟩ := hrel
    rw [hwr]
    clear hwr
    by_cases hkn : k < n
    · obtain ⟨g, o, rfl, hg, _, c2⟩ := HCell.out k (by rw [HN.out]; exact hkn)
      have c2 : W0.cell? ⟨g, o + k * 2 + 1, none⟩ = some (.string (S (f.subs.getD k sub0).2)) := (b0.cell (p := ⟨g, o + k * 2 + 1, none⟩) hg).trans c2
      have i1 : (0 : Int) ≤ (k : Int) := by omega
      have i2 : (k : Int) < (n : Int) := by omega
      have hz := S_size (f.subs.getD k sub0).2
      by_cases hv : 300 < (f.subs.getD k sub0).2.length
      · obtain rfl : al = false := HF.out k (by rw [HN.out]; exact hkn) (decide_eq_false (by omega))
        have d4 : decide ((300 : Int) < (((f.subs.getD k sub0).2.length : Nat) : Int)) = true := decide_eq_true (by omega)
        clear HJ hv
        generalize (f.subs.getD k sub0).2.length = vl at *
        generalize S (f.subs.getD k sub0).2 = sv at *
        go_wp2
        go_ret
        exact ⟨rfl, b0⟩
      · have d4 : decide ((300 : Int) < (((f.subs.getD k sub0).2.length : Nat) : Int)) = false := decide_eq_false (by omega)
        have HJ2 : RowKit.Hid (∀ j, j < k + 1 → (f.subs.getD j sub0).2.length ≤ 300) := by
          intro j hj
          rcases Nat.lt_or_ge j k with h | h
          · exact HJ.out j h
          · rw [show j = k by omega]; omega
        clear HJ hv
        generalize (f.subs.getD k sub0).2.length = vl at *
        generalize S (f.subs.getD k sub0).2 = sv at *
        go_wp2
        go_roundw
        case rel => exact ⟨k + 1, by omega, by go_num, HJ2, trivial⟩
        case measure => simp [intOf]; omega
    · obtain rfl : k = n := by omega
      obtain rfl : al = true := HT.out (fun j hj => decide_eq_true (HJ.out j (by rw [HN.out] at hj; exact hj)))
      go_wp2
      go_ret
      exact ⟨rfl, b0⟩

set_option maxHeartbeats 8000000 in
theorem refSmall_any (r : Rec) (u : Value) (w : World) (hu : FL u r.fields w) (b : Bool) (hb : smallRB r = b) :
    Calls Tryz.prog 13 #[RV r u] w fun e w' => e = .returned (.bool b) ∧ Below w.heap.size w w' := by
  have HU := Lib.hid hu
  obtain ⟨a, cap, rfl, hcap, hmax⟩ := hu.length
  unfold maxLen at hmax
  unfold RV
  unfold smallRB at hb
  have HT := Lib.hid (all_true fd0 smallFB r.fields)
  have HF := Lib.hid (all_false fd0 smallFB r.fields)
  generalize r.fields.all smallFB = al at *
  have cS := Lib.hid (fun k x W hx bb hbb => refSmallField_any (r.fields.getD k fd0) x W hx bb hbb)
  unfold FV at cS
  obtain ⟨n, hn⟩ : ∃ n, r.fields.length = n := ⟨_, rfl⟩
  rw [hn] at hcap hb HU ⊢
  have HN := Lib.hid hn
  obtain ⟨W0, hW0⟩ : ∃ W0, w.alloc (.cells #[.int .i64 r.id, .int .i64 r.ver, .int .i64 r.kind, .string (S r.lang), .slice a n cap] 33) = W0 := ⟨_, rfl⟩
  have b0 : Below w.heap.size w W0 := by rw [← hW0]; exact (Below.refl w.heap.size w).alloc (Nat.le_refl _) _
  have hlt : w.heap.size < W0.heap.size := by rw [← hW0]; simp
  have k4 : W0.cell? ⟨w.heap.size, 4, none⟩ = some (.slice a n cap) := by rw [← hW0]; simp
  have HW0 := Lib.hid hW0
  have HU0 := Lib.hid (HU.out.after b0)
  clear hn hW0 hu HU
  by_cases h1 : 70 < n
  · rw [decide_eq_false (show ¬ n ≤ 70 by omega), Bool.false_and] at hb
    subst hb
    have d1 : decide ((70 : Int) < (n : Int)) = true := decide_eq_true (by omega)
    go_enter Tryz.func13, Tryz.ntmps13
    go_wp2
    go_ret
    rw [HW0.out]
    exact ⟨rfl, b0⟩
  rw [decide_eq_true (show n ≤ 70 by omega), Bool.true_and] at hb
  subst hb
  have d1 : decide ((70 : Int) < (n : Int)) = false := decide_eq_false (by omega)
  have hn70 : n ≤ 70 := by omega
  go_enter Tryz.func13, Tryz.ntmps13
  go_wp2
  rw [HW0.out]
  clear h1
  go_loopw [3] (fun i wr => ∃ k : Nat, k ≤ n ∧ i = .int .i64 (k : Int) ∧ RowKit.Hid (∀ j, j < k → smallFB (r.fields.getD j fd0) = true) ∧ Below W0.heap.size W0 wr) (fun i _ => n - (intOf i).toNat)
  case atStart => exact ⟨0, Nat.zero_le _, rfl, (fun j hj => by omega), Below.refl _ _⟩
  case round =>
    obtain ⟨k, hk, rfl, HJ, hbw⟩ := hrel
    have j4 := (hbw.cell (p := ⟨w.heap.size, 4, none⟩) hlt).trans k4
    by_cases hkn : k < n
    · obtain ⟨g, o, cap', x, he, hg, c0, c1, c2, c3, hq⟩ := (HU0.out.after hbw).at k (by rw [HN.out]; exact hkn)
      obtain ⟨ha, -, hcp⟩ := Value.slice.inj he
      subst ha hcp
      clear he
      have i1 : (0 : Int) ≤ (k : Int) := by omega
      have i2 : (k : Int) < (n : Int) := by omega
      cases hsf : smallFB (r.fields.getD k fd0)
      · obtain rfl : al = false := HF.out k (by rw [HN.out]; exact hkn) hsf
        have c := Lib.hid (cS.out k x wr hq false hsf)
        have Fin := Lib.hid (b0.trans (hbw.mono b0.size))
        clear HJ hq hsf
        generalize S (r.fields.getD k fd0).tag = t0 at *
        generalize S (r.fields.getD k fd0).ind = t1 at *
        generalize (r.fields.getD k fd0).auth = t3 at *
        go_wp2_with fail
        refine c.out.mono ?_
        rintro e w5 ⟨rfl, d⟩
        have Fin2 := Lib.hid (Fin.out.trans (d.mono Fin.out.size))
        go_wp2
        go_ret
        exact ⟨rfl, Fin2.out⟩
      · have c := Lib.hid (cS.out k x wr hq true hsf)
        have HJ2 : RowKit.Hid (∀ j, j < k + 1 → smallFB (r.fields.getD j fd0) = true) := by
          intro j hj
          rcases Nat.lt_or_ge j k with h | h
          · exact HJ.out j h
          · rw [show j = k by omega]; exact hsf
        clear HJ hq hsf
        generalize S (r.fields.getD k fd0).tag = t0 at *
        generalize S (r.fields.getD k fd0).ind = t1 at *
        generalize (r.fields.getD k fd0).auth = t3 at *
        go_wp2_with fail
        refine c.out.mono ?_
        rintro e w5 ⟨rfl, d⟩
        have hb5 := Lib.hid (hbw.trans (d.mono hbw.size))
        go_wp2
        go_roundw
        case rel => exact ⟨k + 1, by omega, by go_num, HJ2, hb5.out⟩
        case measure => simp [intOf]; omega
    · obtain rfl : k = n := by omega
      obtain rfl : al = true := HT.out (fun j hj => HJ.out j (by rw [HN.out] at hj; exact hj))
      have Fin := Lib.hid (b0.trans (hbw.mono b0.size))
      go_wp2
      go_ret
      exact ⟨rfl, Fin.out⟩

set_option maxHeartbeats 16000000 in
theorem refSameFields_any (A B : List Fld) (u v : Value) (w : World) (hu : FL u A w) (hv : FL v B w) (b : Bool) (hb : sameFB A B = b) :
    Calls Tryz.prog 77 #[u, v] w fun e w' => e = .returned (.bool b) ∧ Below w.heap.size w w' := by
  have HU := Lib.hid hu
  have HV := Lib.hid hv
  obtain ⟨a, cap, rfl, hcap, hmax⟩ := hu.length
  obtain ⟨a', cap', rfl, hcap', hmax'⟩ := hv.length
  unfold maxLen at hmax hmax'
  have HEq := Lib.hid (sameFB_iff A B)
  have HX := Lib.hid (fields_ext A B)
  generalize sameFB A B = bb at *
  subst hb
  have cS := Lib.hid (fun k x y W hx hy z hz => refSame_any (A.getD k fd0) (B.getD k fd0) x y W hx hy z hz)
  unfold FV at cS
  obtain ⟨n, hn⟩ : ∃ n, A.length = n := ⟨_, rfl⟩
  obtain ⟨m, hm⟩ : ∃ m, B.length = m := ⟨_, rfl⟩
  rw [hn] at hcap HU ⊢
  rw [hm] at hcap' HV ⊢
  have HN := Lib.hid hn
  have HM := Lib.hid hm
  clear hn hm hu hv
  by_cases hnm : n ≠ m
  · have t : ((n : Int) != (m : Int)) = true := by simp; omega
    obtain rfl : bb = false := by
      cases h : bb
      · rfl
      · exact absurd (HEq.out.1 h) (fun e => hnm (by rw [← HN.out, ← HM.out, e]))
    clear hnm
    go_enter Tryz.func77, Tryz.ntmps77
    go_wp2
    go_ret
    exact ⟨rfl, Below.refl _ _⟩
  obtain rfl : n = m := Decidable.not_not.1 hnm
  have t : ((n : Int) != (n : Int)) = false := by simp
  clear hnm
  go_enter Tryz.func77, Tryz.ntmps77
  go_wp2
  go_loopw [5] (fun i wr => ∃ k : Nat, k ≤ n ∧ i = .int .i64 (k : Int) ∧ RowKit.Hid (∀ j, j < k → A.getD j fd0 = B.getD j fd0) ∧ Below w.heap.size w wr) (fun i _ => n - (intOf i).toNat)
  case atStart => exact ⟨0, Nat.zero_le _, rfl, (fun j hj => by omega), Below.refl _ _⟩
  case round =>
    obtain ⟨k, hk, rfl, HJ, hbw⟩ := hrel
    by_cases hkn : k < n
    · obtain ⟨g, o, cp, x, he, hg, c0, c1, c2, c3, hq⟩ := (HU.out.after hbw).at k (by rw [HN.out]; exact hkn)
      obtain ⟨ha, -, hcp⟩ := Value.slice.inj he
      subst ha hcp
      clear he
      obtain ⟨g', o', cp', y, he', hg', d0, d1, d2, d3, hq'⟩ := (HV.out.after hbw).at k (by rw [HM.out]; exact hkn)
      obtain ⟨ha', -, hcp'⟩ := Value.slice.inj he'
      subst ha' hcp'
      clear he'
      have i1 : (0 : Int) ≤ (k : Int) := by omega
      have i2 : (k : Int) < (n : Int) := by omega
      cases hsf : sameB (A.getD k fd0) (B.getD k fd0)
      · obtain rfl : bb = false := by
          cases h : bb
          · rfl
          · exact absurd (by rw [HEq.out.1 h]) (sameB_ne hsf)
        have cA := Lib.hid (fun W (h : Below wr.heap.size wr W) => cS.out k x y W (hq.after h) (hq'.after h) false hsf)
        have Fin := Lib.hid hbw
        have Fin0 := Lib.hid (Below.refl wr.heap.size wr)
        clear HJ hq hq' hsf HEq HX
        generalize S (A.getD k fd0).tag = t0 at *
        generalize S (A.getD k fd0).ind = t1 at *
        generalize (A.getD k fd0).auth = t3 at *
        generalize S (B.getD k fd0).tag = s0 at *
        generalize S (B.getD k fd0).ind = s1 at *
        generalize (B.getD k fd0).auth = s3 at *
        go_wp2
        go_region_law (first | (go_simp; go_at_call 10; refine (cA.out _ ?_).mono ?_; (first | exact Fin0.out | exact Fin0.out.drew); rintro e w5 ⟨rfl, d⟩; have Fin2 := Lib.hid (Fin.out.drew.trans (d.mono Fin.out.size))))
        all_goals
          go_wp2
          go_ret
          exact ⟨rfl, Fin2.out⟩
      · have cA := Lib.hid (fun W (h : Below wr.heap.size wr W) => cS.out k x y W (hq.after h) (hq'.after h) true hsf)
        have Fin := Lib.hid hbw
        have Fin0 := Lib.hid (Below.refl wr.heap.size wr)
        have HJ2 : RowKit.Hid (∀ j, j < k + 1 → A.getD j fd0 = B.getD j fd0) := by
          intro j hj
          rcases Nat.lt_or_ge j k with h | h
          · exact HJ.out j h
          · rw [show j = k by omega]; exact (sameB_iff _ _).1 hsf
        clear HJ hq hq' hsf HEq HX
        generalize S (A.getD k fd0).tag = t0 at *
        generalize S (A.getD k fd0).ind = t1 at *
        generalize (A.getD k fd0).auth = t3 at *
        generalize S (B.getD k fd0).tag = s0 at *
        generalize S (B.getD k fd0).ind = s1 at *
        generalize (B.getD k fd0).auth = s3 at *
        go_wp2
        go_region_law (first | (go_simp; go_at_call 10; refine (cA.out _ ?_).mono ?_; (first | exact Fin0.out | exact Fin0.out.drew); rintro e w5 ⟨rfl, d⟩; have Fin2 := Lib.hid (Fin.out.drew.trans (d.mono Fin.out.size))))
        all_goals
          go_wp2
          go_roundw
          case rel => exact ⟨k + 1, by omega, by go_num, HJ2, Fin2.out⟩
          case measure => simp [intOf]; omega
    · obtain rfl : k = n := by omega
      obtain rfl : bb = true := HEq.out.2 (HX.out (by rw [HN.out, HM.out]) (fun j hj => HJ.out j (by rw [HN.out] at hj; exact hj)))
      go_wp2
      go_ret
      exact ⟨rfl, hbw⟩
end

section
open Go.RowKit Go.PlainAid
set_option maxHeartbeats 8000000 in
theorem refSame08_any (r q : Rec) (u v : Value) (w : World) (hu : FL u r.fields w) (hv : FL v q.fields w) (b : Bool) (hb : sameRB r q = b) :
    Calls Tryz.prog 43 #[RV r u, RV q v] w fun e w' => e = .returned (.bool b) ∧ Below w.heap.size w w' := by
  unfold RV
  unfold sameRB at hb
  have cF := Lib.hid (fun W hx hy z hz => refSameFields_any r.fields q.fields u v W hx hy z hz)
  obtain ⟨W0, hW0⟩ : ∃ W0, (w.alloc (.cells #[.int .i64 r.id, .int .i64 r.ver, .int .i64 r.kind, .string (S r.lang), u] 33)).alloc (.cells #[.int .i64 q.id, .int .i64 q.ver, .int .i64 q.kind, .string (S q.lang), v] 33) = W0 := ⟨_, rfl⟩
  have b1 := (Below.refl w.heap.size w).alloc (Nat.le_refl _) (.cells #[.int .i64 r.id, .int .i64 r.ver, .int .i64 r.kind, .string (S r.lang), u] 33)
  have b0 : Below w.heap.size w W0 := by rw [← hW0]; exact b1.alloc (by simp) _
  have k0 : W0.cell? ⟨w.heap.size, 0, none⟩ = some (.int .i64 r.id) := by rw [← hW0]; simp
  have k1 : W0.cell? ⟨w.heap.size, 1, none⟩ = some (.int .i64 r.ver) := by rw [← hW0]; simp
  have k2 : W0.cell? ⟨w.heap.size, 2, none⟩ = some (.int .i64 r.kind) := by rw [← hW0]; simp
  have k3 : W0.cell? ⟨w.heap.size, 3, none⟩ = some (.string (S r.lang)) := by rw [← hW0]; simp
  have k4 : W0.cell? ⟨w.heap.size, 4, none⟩ = some u := by rw [← hW0]; simp
  have l0 : W0.cell? ⟨w.heap.size + 1, 0, none⟩ = some (.int .i64 q.id) := by rw [← hW0]; simp
  have l1 : W0.cell? ⟨w.heap.size + 1, 1, none⟩ = some (.int .i64 q.ver) := by rw [← hW0]; simp
  have l2 : W0.cell? ⟨w.heap.size + 1, 2, none⟩ = some (.int .i64 q.kind) := by rw [← hW0]; simp
  have l3 : W0.cell? ⟨w.heap.size + 1, 3, none⟩ = some (.string (S q.lang)) := by rw [← hW0]; simp
  have l4 : W0.cell? ⟨w.heap.size + 1, 4, none⟩ = some v := by rw [← hW0]; simp
  have HW0 := Lib.hid hW0
  have q3 := S_eq r.lang q.lang
  have hu0 := Lib.hid (hu.after b0)
  have hv0 := Lib.hid (hv.after b0)
  obtain ⟨a, cap, rfl, _, _⟩ := hu.length
  obtain ⟨a', cap', rfl, _, _⟩ := hv.length
  clear hW0 b1 hu hv
  generalize sameFB r.fields q.fields = sf at *
  generalize r.fields.length = n at *
  generalize q.fields.length = m at *
  by_cases h0 : r.id = q.id
  case neg =>
    rw [decide_eq_false h0] at hb
    simp only [Bool.false_and] at hb
    subst hb
    have t0 : (r.id != q.id) = true := by simpa using h0
    clear h0
    go_enter Tryz.func43, Tryz.ntmps43
    go_wp2
    go_ret
    rw [HW0.out]
    exact ⟨rfl, b0⟩
  rw [decide_eq_true h0] at hb
  have t0 : (r.id != q.id) = false := by simpa using h0
  clear h0
  by_cases h1 : r.ver = q.ver
  case neg =>
    rw [decide_eq_false h1] at hb
    simp only [Bool.false_and, Bool.and_false] at hb
    subst hb
    have t1 : (r.ver != q.ver) = true := by simpa using h1
    clear h1
    go_enter Tryz.func43, Tryz.ntmps43
    go_wp2
    go_ret
    rw [HW0.out]
    exact ⟨rfl, b0⟩
  rw [decide_eq_true h1] at hb
  have t1 : (r.ver != q.ver) = false := by simpa using h1
  clear h1
  by_cases h2 : r.kind = q.kind
  case neg =>
    rw [decide_eq_false h2] at hb
    simp only [Bool.false_and, Bool.and_false] at hb
    subst hb
    have t2 : (r.kind != q.kind) = true := by simpa using h2
    clear h2
    go_enter Tryz.func43, Tryz.ntmps43
    go_wp2
    go_ret
    rw [HW0.out]
    exact ⟨rfl, b0⟩
  rw [decide_eq_true h2] at hb
  have t2 : (r.kind != q.kind) = false := by simpa using h2
  clear h2
  by_cases h3 : r.lang = q.lang
  case neg =>
    rw [decide_eq_false h3] at hb q3
    simp only [Bool.false_and, Bool.and_false] at hb
    subst hb
    clear h3
    generalize S r.lang = x at *
    generalize S q.lang = y at *
    go_enter Tryz.func43, Tryz.ntmps43
    go_wp2
    go_ret
    rw [HW0.out]
    exact ⟨rfl, b0⟩
  rw [decide_eq_true h3] at hb q3
  simp only [Bool.true_and] at hb
  subst hb
  clear h3
  have c := Lib.hid (cF.out W0 hu0.out hv0.out sf rfl)
  generalize S r.lang = x at *
  generalize S q.lang = y at *
  go_enter Tryz.func43, Tryz.ntmps43
  go_wp2_with fail
  rw [HW0.out]
  refine c.out.mono ?_
  rintro e w5 ⟨rfl, d⟩
  have Fin := Lib.hid (b0.trans (d.mono b0.size))
  go_wp2
  go_ret
  exact ⟨rfl, Fin.out⟩

theorem langB_false (l : List UInt8) (k : Nat) (hk : k < 3) (hb : lowB (l.getD k 0) = false) : langB l = false := by
  unfold langB
  match k, hk with
  | 0, _ => rw [hb]; simp
  | 1, _ => rw [hb]; simp
  | 2, _ => rw [hb]; simp
theorem langB_true (l : List UInt8) (h : l.length = 3) (hb : ∀ k, k < 3 → lowB (l.getD k 0) = true) : langB l = true := by
  unfold langB
  rw [hb 0 (by omega), hb 1 (by omega), hb 2 (by omega), decide_eq_true h]
  rfl
end

section
open Go.RowKit Go.PlainAid
/-- What holds of blocks from B on alone. -/
def New (B : Nat) (P : World → Prop) (w : World) : Prop := ∀ w' : World, w.heap.size ≤ w'.heap.size → (∀ i, B ≤ i → i < w.heap.size → w'.heap[i]? = w.heap[i]?) → P w'
theorem New.here {B : Nat} {P : World → Prop} {w : World} (h : New B P w) : P w := h w (Nat.le_refl _) (fun _ _ _ => rfl)
theorem New.on {B : Nat} {P : World → Prop} {w w' : World} (h : New B P w) (hs : w.heap.size ≤ w'.heap.size) (hb : ∀ i, B ≤ i → i < w.heap.size → w'.heap[i]? = w.heap[i]?) : New B P w' :=
  fun w2 h1 h2 => h w2 (Nat.le_trans hs h1) fun i h3 h4 => (h2 i h3 (Nat.lt_of_lt_of_le h4 hs)).trans (hb i h3 h4)
theorem New.mono {B B' : Nat} {P : World → Prop} {w : World} (h : New B' P w) (hB : B ≤ B') : New B P w :=
  fun w2 h1 h2 => h w2 h1 fun i h3 h4 => h2 i (Nat.le_trans hB h3) h4
theorem New.after {B : Nat} {P : World → Prop} {w w' : World} (h : New B P w) (hb : Below w.heap.size w w') : New B P w' := h.on hb.size fun i _ hi => hb.block i hi

theorem heap_setn (w : World) (p : Addr) (v : Value) (g : Nat) (h : g ≠ p.block) : (w.setCell p v).heap[g]? = w.heap[g]? := Below.heap_setCell _ _ _ _ h
/-- A row that lies from B on lies there in every world with the same blocks from B on. -/
theorem own_same {w w' : World} {B e size n : Nat} {v : Value} {xs : List Value} (h : w.ownsRow B e size v n xs) (hb : ∀ i, B ≤ i → i < w.heap.size → w'.heap[i]? = w.heap[i]?) : w'.ownsRow B e size v n xs := by
  refine ⟨h.1, ?_⟩
  rcases h.2 with hn | ⟨g, cap, cur, hv, hB', hg, rest⟩
  · exact .inl hn
  · exact .inr ⟨g, cap, cur, hv, hB', (hb g hB' (Array.getElem?_eq_some_iff.1 hg).1).trans hg, rest⟩

/-- What holds of blocks from B on but one. -/
def NewX (B : Nat) (og : Option Nat) (P : World → Prop) (w : World) : Prop := ∀ w' : World, w.heap.size ≤ w'.heap.size → (∀ i, B ≤ i → i < w.heap.size → some i ≠ og → w'.heap[i]? = w.heap[i]?) → P w'
theorem NewX.of {B B' : Nat} {og : Option Nat} {P : World → Prop} {w : World} (h : New B' P w) (hB : B ≤ B') (ho : ∀ k, og = some k → k < B') : NewX B og P w :=
  fun w2 h1 h2 => h w2 h1 fun i h3 h4 => h2 i (Nat.le_trans hB h3) h4 (fun e => by have := ho i e.symm; omega)
theorem NewX.on {B : Nat} {og : Option Nat} {P : World → Prop} {w w' : World} (h : NewX B og P w) (hs : w.heap.size ≤ w'.heap.size) (hb : ∀ i, B ≤ i → i < w.heap.size → some i ≠ og → w'.heap[i]? = w.heap[i]?) : NewX B og P w' :=
  fun w2 h1 h2 => h w2 (Nat.le_trans hs h1) fun i h3 h4 h5 => (h2 i h3 (Nat.lt_of_lt_of_le h4 hs) h5).trans (hb i h3 h4 h5)
theorem NewX.move {B : Nat} {og og' : Option Nat} {P : World → Prop} {w w' : World} (h : NewX B og P w) (hs : w.heap.size ≤ w'.heap.size) (hb : ∀ i, B ≤ i → i < w.heap.size → some i ≠ og → w'.heap[i]? = w.heap[i]?) (ho : og' = og ∨ ∃ n, og' = some n ∧ w.heap.size ≤ n) : NewX B og' P w' :=
  fun w2 h1 h2 => h w2 (Nat.le_trans hs h1) fun i h3 h4 h5 => (h2 i h3 (Nat.lt_of_lt_of_le h4 hs) (by
    rcases ho with rfl | ⟨n, rfl, hn⟩
    · exact h5
    · intro e
      have := Option.some.inj e
      omega)).trans (hb i h3 h4 h5)

/-- A row of fields from block B on; their subfields lie in new blocks besides. -/
def FN (B : Nat) (v : Value) (L : List Fld) (w : World) : Prop :=
  ∃ us : List Value, us.length = L.length ∧ w.ownsRow B 24 4 v L.length (cellsF L us) ∧ ∀ i, i < L.length → NewX B v.ownBlock (QL (us.getD i .nilIface) (L.getD i fd0).subs) w
theorem FN.nil (B : Nat) (w : World) : FN B (.slice none 0 0) [] w := ⟨[], rfl, World.ownsRow_nil _ _ _ _, fun i hi => by cases hi⟩
theorem FN.on {B : Nat} {v : Value} {L : List Fld} {w w' : World} (h : FN B v L w) (hs : w.heap.size ≤ w'.heap.size) (hb : ∀ i, B ≤ i → i < w.heap.size → w'.heap[i]? = w.heap[i]?) : FN B v L w' := by
  obtain ⟨us, h1, h2, h3⟩ := h
  exact ⟨us, h1, own_same h2 hb, fun i hi => (h3 i hi).on hs (fun j hj hk _ => hb j hj hk)⟩
theorem FN.fl {B : Nat} {v : Value} {L : List Fld} {w : World} (h : FN B v L w) : FL v L w := by
  obtain ⟨us, hl, hown, hq⟩ := h
  rcases hown.2 with ⟨rfl, h0⟩ | ⟨g, cap, cur, rfl, hb, hg, hc, hm, hs, ht⟩
  · have : L = [] := List.eq_nil_of_length_eq_zero h0
    subst this
    exact ⟨none, 0, rfl, Nat.le_refl _, Nat.zero_le _, fun _ => rfl, fun i hi => by cases hi⟩
  · have hadd : ∀ j, (⟨g, 0, none⟩ : Addr).add j = ⟨g, j, none⟩ := fun j => by unfold Addr.add; split <;> simp_all
    refine ⟨_, cap, rfl, hc, hm, (fun h => by cases h), fun i hi => ?_⟩
    have hcc := cellsF_at L us i hl hi
    have t0 := hown.cells (g := g) rfl _ _ hcc.1
    have t1 := hown.cells (g := g) rfl _ _ hcc.2.1
    have t2 := hown.cells (g := g) rfl _ _ hcc.2.2.1
    have t3 := hown.cells (g := g) rfl _ _ hcc.2.2.2
    rw [hadd] at t0 t1 t2 t3
    refine ⟨g, 0, us.getD i .nilIface, rfl, (Array.getElem?_eq_some_iff.1 hg).1, ?_⟩
    rw [Nat.zero_add]
    exact ⟨t0, t1, t2, t3, (hq i hi) w (Nat.le_refl _) (fun _ _ _ _ => rfl)⟩
theorem FN.new {B : Nat} {v : Value} {L : List Fld} {w : World} (h : FN B v L w) : New B (FL v L) w := fun _ hs hb => (h.on hs hb).fl
/-- What the walk needs for an append, and the longer row. -/
theorem FN.open {B : Nat} {v : Value} {L : List Fld} {w : World} (h : FN B v L w) :
    ∃ xs : List Value, w.ownsRow B 24 4 v L.length xs ∧ ∀ (f : Fld) (u v' : Value) (w' : World), NewX B v.ownBlock (QL u f.subs) w → w.grownBy w' v.ownBlock → (v'.ownBlock = v.ownBlock ∨ v'.ownBlock = some w.heap.size) →
      w'.ownsRow B 24 4 v' (L.length + 1) (xs ++ encF f u) → FN B v' (L ++ [f]) w' := by
  obtain ⟨us, hl, hown, hq⟩ := h
  refine ⟨_, hown, fun f u v' w' hu hg hb hown' => ⟨us ++ [u], by rw [List.length_append, List.length_append, hl]; rfl, ?_, fun i hi => ?_⟩⟩
  · rw [cellsF_snoc L us f u hl, List.length_append]
    exact hown'
  · have hmv : ∀ {P : World → Prop}, NewX B v.ownBlock P w → NewX B v'.ownBlock P w' := fun hp => hp.move hg.size (fun j _ hk hne => hg.block j hk hne) (hb.imp id fun h => ⟨_, h, Nat.le_refl _⟩)
    rw [getD_app, getD_appF, hl]
    by_cases h1 : i < L.length
    · rw [if_pos h1, if_pos h1]; exact hmv (hq i h1)
    · have : i = L.length := by rw [List.length_append] at hi; simp at hi; omega
      subst this
      rw [if_neg h1, if_neg h1, Nat.sub_self]
      exact hmv hu

/-- A slice of these records. -/
def RL (v : Value) (L : List Rec) (w : World) : Prop :=
  ∃ a cap, v = .slice a L.length cap ∧ L.length ≤ cap ∧ cap ≤ maxLen ∧ (a = none → cap = 0) ∧ ∀ i, i < L.length → ∃ g o u, a = some ⟨g, o, none⟩ ∧ g < w.heap.size ∧
    w.cell? ⟨g, o + i * 5, none⟩ = some (.int .i64 (L.getD i rec0).id) ∧ w.cell? ⟨g, o + i * 5 + 1, none⟩ = some (.int .i64 (L.getD i rec0).ver) ∧ w.cell? ⟨g, o + i * 5 + 2, none⟩ = some (.int .i64 (L.getD i rec0).kind) ∧
    w.cell? ⟨g, o + i * 5 + 3, none⟩ = some (.string (S (L.getD i rec0).lang)) ∧ w.cell? ⟨g, o + i * 5 + 4, none⟩ = some u ∧ FL u (L.getD i rec0).fields w
theorem RL.nil (w : World) : RL (.slice none 0 0) [] w := ⟨none, 0, rfl, Nat.le_refl _, Nat.zero_le _, fun _ => rfl, fun i hi => by cases hi⟩
theorem RL.after {v : Value} {L : List Rec} {w w' : World} (h : RL v L w) (hb : Below w.heap.size w w') : RL v L w' := by
  obtain ⟨a, cap, rfl, hc, hm, hn, hx⟩ := h
  refine ⟨a, cap, rfl, hc, hm, hn, fun i hi => ?_⟩
  obtain ⟨g, o, u, rfl, hg, h0, h1, h2, h3, h4, hq⟩ := hx i hi
  exact ⟨g, o, u, rfl, Nat.lt_of_lt_of_le hg hb.size, (hb.cell (p := ⟨g, o + i * 5, none⟩) hg).trans h0, (hb.cell (p := ⟨g, o + i * 5 + 1, none⟩) hg).trans h1,
    (hb.cell (p := ⟨g, o + i * 5 + 2, none⟩) hg).trans h2, (hb.cell (p := ⟨g, o + i * 5 + 3, none⟩) hg).trans h3, (hb.cell (p := ⟨g, o + i * 5 + 4, none⟩) hg).trans h4, hq.after hb⟩
theorem RL.length {v : Value} {L : List Rec} {w : World} (h : RL v L w) : ∃ a cap, v = .slice a L.length cap ∧ L.length ≤ cap ∧ cap ≤ maxLen := by
  obtain ⟨a, cap, h1, h2, h3, _⟩ := h
  exact ⟨a, cap, h1, h2, h3⟩
theorem RL.at {v : Value} {L : List Rec} {w : World} (h : RL v L w) (k : Nat) (hk : k < L.length) : ∃ g o cap u, v = .slice (some ⟨g, o, none⟩) L.length cap ∧ g < w.heap.size ∧
    w.cell? ⟨g, o + k * 5, none⟩ = some (.int .i64 (L.getD k rec0).id) ∧ w.cell? ⟨g, o + k * 5 + 1, none⟩ = some (.int .i64 (L.getD k rec0).ver) ∧ w.cell? ⟨g, o + k * 5 + 2, none⟩ = some (.int .i64 (L.getD k rec0).kind) ∧
    w.cell? ⟨g, o + k * 5 + 3, none⟩ = some (.string (S (L.getD k rec0).lang)) ∧ w.cell? ⟨g, o + k * 5 + 4, none⟩ = some u ∧ FL u (L.getD k rec0).fields w := by
  obtain ⟨a, cap, rfl, hc, hm, hn, hx⟩ := h
  obtain ⟨g, o, u, rfl, hh⟩ := hx k hk
  exact ⟨g, o, cap, u, rfl, hh⟩

/-! Rows of the call's own. -/
def encR (r : Rec) (u : Value) : List Value := [.int .i64 r.id, .int .i64 r.ver, .int .i64 r.kind, .string (S r.lang), u]
def cellsR : List Rec → List Value → List Value
  | r :: t, u :: us => encR r u ++ cellsR t us
  | _, _ => []
theorem cellsR_app : ∀ (L : List Rec) (us : List Value) (M : List Rec) (vs : List Value), us.length = L.length → cellsR (L ++ M) (us ++ vs) = cellsR L us ++ cellsR M vs
  | [], [], M, vs, _ => by simp [cellsR]
  | a :: s, x :: xs, M, vs, h => by
    have := cellsR_app s xs M vs (by simpa using h)
    simp only [List.cons_append, cellsR, this, List.append_assoc]
theorem cellsR_snoc (L : List Rec) (us : List Value) (f : Rec) (u : Value) (h : us.length = L.length) : cellsR (L ++ [f]) (us ++ [u]) = cellsR L us ++ encR f u := by
  rw [cellsR_app L us [f] [u] h]
  simp [cellsR]
theorem cellsR_at : ∀ (L : List Rec) (us : List Value) (i : Nat), us.length = L.length → i < L.length → (cellsR L us)[i * 5]? = some (.int .i64 (L.getD i rec0).id) ∧ (cellsR L us)[i * 5 + 1]? = some (.int .i64 (L.getD i rec0).ver) ∧
    (cellsR L us)[i * 5 + 2]? = some (.int .i64 (L.getD i rec0).kind) ∧ (cellsR L us)[i * 5 + 3]? = some (.string (S (L.getD i rec0).lang)) ∧ (cellsR L us)[i * 5 + 4]? = some (us.getD i .nilIface)
  | [], _, _, _, h => by cases h
  | a :: s, x :: xs, 0, _, _ => ⟨rfl, rfl, rfl, rfl, rfl⟩
  | a :: s, x :: xs, i + 1, hl, h => by
    have := cellsR_at s xs i (by simpa using hl) (by simpa using h)
    have e : cellsR (a :: s) (x :: xs) = .int .i64 a.id :: .int .i64 a.ver :: .int .i64 a.kind :: .string (S a.lang) :: x :: cellsR s xs := rfl
    rw [e, show (i + 1) * 5 = i * 5 + 1 + 1 + 1 + 1 + 1 by omega]
    simp only [List.getElem?_cons_succ]
    exact this
theorem cellsR_length : ∀ (L : List Rec) (us : List Value), us.length = L.length → (cellsR L us).length = L.length * 5
  | [], _, _ => by simp [cellsR]
  | f :: t, u :: us, h => by
    have := cellsR_length t us (by simpa using h)
    simp only [cellsR, List.length_append, this, encR, List.length_cons, List.length_nil]
    omega
theorem cellsR_news {g : Nat} {w : World} : ∀ (L : List Rec) (us : List Value) (o : Nat), us.length = L.length →
    (∀ i, i < L.length → w.cell? ⟨g, o + i * 5, none⟩ = some (.int .i64 (L.getD i rec0).id) ∧ w.cell? ⟨g, o + i * 5 + 1, none⟩ = some (.int .i64 (L.getD i rec0).ver) ∧ w.cell? ⟨g, o + i * 5 + 2, none⟩ = some (.int .i64 (L.getD i rec0).kind) ∧
      w.cell? ⟨g, o + i * 5 + 3, none⟩ = some (.string (S (L.getD i rec0).lang)) ∧ w.cell? ⟨g, o + i * 5 + 4, none⟩ = some (us.getD i .nilIface)) →
    ∀ j u, (cellsR L us)[j]? = some u → w.cell? ⟨g, o + j, none⟩ = some u
  | [], _, _, _, _, j, u, hu => by simp [cellsR] at hu
  | f :: t, x :: xs, o, hl, h, j, u, hu => by
    have e : cellsR (f :: t) (x :: xs) = .int .i64 f.id :: .int .i64 f.ver :: .int .i64 f.kind :: .string (S f.lang) :: x :: cellsR t xs := rfl
    rw [e] at hu
    have h0 := h 0 (by simp)
    match j, hu with
    | 0, hu => simp at hu; subst hu; simpa using h0.1
    | 1, hu => simp at hu; subst hu; simpa using h0.2.1
    | 2, hu => simp at hu; subst hu; simpa using h0.2.2.1
    | 3, hu => simp at hu; subst hu; simpa using h0.2.2.2.1
    | 4, hu => simp at hu; subst hu; simpa using h0.2.2.2.2
    | j + 5, hu =>
      simp only [List.getElem?_cons_succ] at hu
      have := cellsR_news t xs (o + 5) (by simpa using hl) (fun i hi => by
        have := h (i + 1) (by simpa using hi)
        rw [show o + (i + 1) * 5 = o + 5 + i * 5 by omega] at this
        exact this) j u hu
      rwa [show o + 5 + j = o + (j + 5) by omega] at this
theorem FL.one {u : Value} {L : List Fld} {w : World} (h : FL u L w) : u.oneCell' = true := by
  obtain ⟨a, cap, rfl, _⟩ := h
  rfl
theorem encR_one (r : Rec) (u : Value) (h : u.oneCell' = true) : ∀ x ∈ encR r u, x.oneCell' = true := by
  intro x hx
  simp only [encR, List.mem_cons, List.not_mem_nil, or_false] at hx
  rcases hx with rfl | rfl | rfl | rfl | rfl
  · rfl
  · rfl
  · rfl
  · rfl
  · exact h
theorem cellsR_one : ∀ (L : List Rec) (us : List Value), (∀ u ∈ us, u.oneCell' = true) → ∀ u ∈ cellsR L us, u.oneCell' = true
  | [], _, _, u, hu => by simp [cellsR] at hu
  | f :: t, [], _, u, hu => by simp [cellsR] at hu
  | f :: t, x :: xs, h, u, hu => by
    rw [cellsR, List.mem_append] at hu
    rcases hu with hu | hu
    · exact encR_one f x (h x (by simp)) u hu
    · exact cellsR_one t xs (fun y hy => h y (List.mem_cons_of_mem _ hy)) u hu
theorem getD_appR (us vs : List Rec) (i : Nat) : (us ++ vs).getD i rec0 = if i < us.length then us.getD i rec0 else vs.getD (i - us.length) rec0 := by
  rw [List.getD_eq_getElem?_getD]
  by_cases h : i < us.length
  · rw [if_pos h, List.getElem?_append_left h, List.getD_eq_getElem?_getD]
  · rw [if_neg h, List.getElem?_append_right (by omega), List.getD_eq_getElem?_getD]
/-- A row whose nested rows are these is a slice of the records. -/
theorem row_rl {B : Nat} {v : Value} {L : List Rec} {us : List Value} {w : World} (hl : us.length = L.length) (hown : w.ownsRow B 33 5 v L.length (cellsR L us))
    (hq : ∀ i, i < L.length → FL (us.getD i .nilIface) (L.getD i rec0).fields w) : RL v L w := by
  rcases hown.2 with ⟨rfl, h0⟩ | ⟨g, cap, cur, rfl, hb, hg, hc, hm, hs, ht⟩
  · have : L = [] := List.eq_nil_of_length_eq_zero h0
    subst this
    exact RL.nil w
  · have hadd : ∀ j, (⟨g, 0, none⟩ : Addr).add j = ⟨g, j, none⟩ := fun j => by unfold Addr.add; split <;> simp_all
    refine ⟨_, cap, rfl, hc, hm, (fun h => by cases h), fun i hi => ?_⟩
    obtain ⟨h0, h1, h2, h3, h4⟩ := cellsR_at L us i hl hi
    have t0 := hown.cells (g := g) rfl _ _ h0
    have t1 := hown.cells (g := g) rfl _ _ h1
    have t2 := hown.cells (g := g) rfl _ _ h2
    have t3 := hown.cells (g := g) rfl _ _ h3
    have t4 := hown.cells (g := g) rfl _ _ h4
    rw [hadd] at t0 t1 t2 t3 t4
    refine ⟨g, 0, us.getD i .nilIface, rfl, (Array.getElem?_eq_some_iff.1 hg).1, ?_⟩
    rw [Nat.zero_add]
    exact ⟨t0, t1, t2, t3, t4, hq i hi⟩

/-- A row of records from block B on; their fields lie in new blocks besides. -/
def RN (B : Nat) (v : Value) (L : List Rec) (w : World) : Prop :=
  ∃ us : List Value, us.length = L.length ∧ w.ownsRow B 33 5 v L.length (cellsR L us) ∧ ∀ i, i < L.length → NewX B v.ownBlock (FL (us.getD i .nilIface) (L.getD i rec0).fields) w
theorem RN.nil (B : Nat) (w : World) : RN B (.slice none 0 0) [] w := ⟨[], rfl, World.ownsRow_nil _ _ _ _, fun i hi => by cases hi⟩
theorem RN.on {B : Nat} {v : Value} {L : List Rec} {w w' : World} (h : RN B v L w) (hs : w.heap.size ≤ w'.heap.size) (hb : ∀ i, B ≤ i → i < w.heap.size → w'.heap[i]? = w.heap[i]?) : RN B v L w' := by
  obtain ⟨us, h1, h2, h3⟩ := h
  exact ⟨us, h1, own_same h2 hb, fun i hi => (h3 i hi).on hs (fun j hj hk _ => hb j hj hk)⟩
theorem RN.after {B : Nat} {v : Value} {L : List Rec} {w w' : World} (h : RN B v L w) (hb : Below w.heap.size w w') : RN B v L w' := h.on hb.size fun i _ hi => hb.block i hi
theorem RN.rl {B : Nat} {v : Value} {L : List Rec} {w : World} (h : RN B v L w) : RL v L w := by
  obtain ⟨us, hl, hown, hq⟩ := h
  exact row_rl hl hown fun i hi => (hq i hi) w (Nat.le_refl _) (fun _ _ _ _ => rfl)
theorem RN.new {B : Nat} {v : Value} {L : List Rec} {w : World} (h : RN B v L w) : New B (RL v L) w := fun _ hs hb => (h.on hs hb).rl
theorem RN.open {B : Nat} {v : Value} {L : List Rec} {w : World} (h : RN B v L w) :
    ∃ xs : List Value, w.ownsRow B 33 5 v L.length xs ∧ ∀ (f : Rec) (u v' : Value) (w' : World), NewX B v.ownBlock (FL u f.fields) w → w.grownBy w' v.ownBlock → (v'.ownBlock = v.ownBlock ∨ v'.ownBlock = some w.heap.size) →
      w'.ownsRow B 33 5 v' (L.length + 1) (xs ++ encR f u) → RN B v' (L ++ [f]) w' := by
  obtain ⟨us, hl, hown, hq⟩ := h
  refine ⟨_, hown, fun f u v' w' hu hg hb hown' => ⟨us ++ [u], by rw [List.length_append, List.length_append, hl]; rfl, ?_, fun i hi => ?_⟩⟩
  · rw [cellsR_snoc L us f u hl, List.length_append]
    exact hown'
  · have hmv : ∀ {P : World → Prop}, NewX B v.ownBlock P w → NewX B v'.ownBlock P w' := fun hp => hp.move hg.size (fun j _ hk hne => hg.block j hk hne) (hb.imp id fun h => ⟨_, h, Nat.le_refl _⟩)
    rw [getD_app, getD_appR, hl]
    by_cases h1 : i < L.length
    · rw [if_pos h1, if_pos h1]; exact hmv (hq i h1)
    · have : i = L.length := by rw [List.length_append] at hi; simp at hi; omega
      subst this
      rw [if_neg h1, if_neg h1, Nat.sub_self]
      exact hmv hu

/-- A row of records of the call's own, from block B on, nil while it is empty; their fields lie in W0. -/
def RR (W0 : World) (B : Nat) (v : Value) (L : List Rec) (w : World) : Prop :=
  ∃ us : List Value, us.length = L.length ∧ w.ownsRow B 33 5 v L.length (cellsR L us) ∧ ∀ i, i < L.length → FL (us.getD i .nilIface) (L.getD i rec0).fields W0
theorem RR.nil (W0 w : World) (B : Nat) : RR W0 B (.slice none 0 0) [] w := ⟨[], rfl, World.ownsRow_nil _ _ _ _, fun i hi => by cases hi⟩
theorem RR.rl {W0 : World} {B : Nat} {v : Value} {L : List Rec} {w : World} (h : RR W0 B v L w) (hbel : Below W0.heap.size W0 w) : RL v L w := by
  obtain ⟨us, hl, hown, hq⟩ := h
  exact row_rl hl hown fun i hi => (hq i hi).after hbel
theorem RR.after {W0 : World} {B : Nat} {v : Value} {L : List Rec} {w w' : World} (h : RR W0 B v L w) (hb : Below w.heap.size w w') : RR W0 B v L w' := by
  obtain ⟨us, h1, h2, h3⟩ := h
  exact ⟨us, h1, own_after h2 hb, h3⟩
theorem RR.open {W0 : World} {B : Nat} {v : Value} {L : List Rec} {w : World} (h : RR W0 B v L w) :
    ∃ xs : List Value, w.ownsRow B 33 5 v L.length xs ∧ ∀ (M : List Rec) (vs : List Value) (v' : Value) (w' : World), vs.length = M.length → (∀ i, i < M.length → FL (vs.getD i .nilIface) (M.getD i rec0).fields W0) →
      w'.ownsRow B 33 5 v' (L.length + M.length) (xs ++ cellsR M vs) → RR W0 B v' (L ++ M) w' := by
  obtain ⟨us, hl, hown, hq⟩ := h
  refine ⟨_, hown, fun M vs v' w' hvl hvq hown' => ⟨us ++ vs, by rw [List.length_append, List.length_append, hl, hvl], ?_, fun i hi => ?_⟩⟩
  · rw [cellsR_app L us M vs hl, List.length_append]
    exact hown'
  · rw [getD_app, getD_appR, hl]
    by_cases h1 : i < L.length
    · rw [if_pos h1, if_pos h1]; exact hq i h1
    · rw [if_neg h1, if_neg h1]; exact hvq _ (by rw [List.length_append] at hi; omega)
/-- The fields' values of a slice of records. -/
theorem RL.vals {v : Value} {L : List Rec} {w : World} (h : RL v L w) : ∃ (a : Option Addr) (cap : Nat) (us : List Value), v = .slice a L.length cap ∧ L.length ≤ cap ∧ cap ≤ maxLen ∧ (a = none → cap = 0) ∧ us.length = L.length ∧ (∀ i, i < L.length → FL (us.getD i .nilIface) (L.getD i rec0).fields w) ∧
    ∀ g o s, a = some ⟨g, o, s⟩ → L ≠ [] → s = none ∧ g < w.heap.size ∧ ∀ j u, (cellsR L us)[j]? = some u → w.cell? ⟨g, o + j, none⟩ = some u := by
  obtain ⟨a, cap, rfl, hc, hm, hn, hx⟩ := h
  have hch : ∀ i, ∃ u, i < L.length → ∃ g o, a = some ⟨g, o, none⟩ ∧ g < w.heap.size ∧ (w.cell? ⟨g, o + i * 5, none⟩ = some (.int .i64 (L.getD i rec0).id) ∧ w.cell? ⟨g, o + i * 5 + 1, none⟩ = some (.int .i64 (L.getD i rec0).ver) ∧ w.cell? ⟨g, o + i * 5 + 2, none⟩ = some (.int .i64 (L.getD i rec0).kind) ∧
      w.cell? ⟨g, o + i * 5 + 3, none⟩ = some (.string (S (L.getD i rec0).lang)) ∧ w.cell? ⟨g, o + i * 5 + 4, none⟩ = some u) ∧ FL u (L.getD i rec0).fields w := by
    intro i
    by_cases hi : i < L.length
    · obtain ⟨g, o, u, h1, hg, h0, h2, h3, h4, h5, hq⟩ := hx i hi
      exact ⟨u, fun _ => ⟨g, o, h1, hg, ⟨h0, h2, h3, h4, h5⟩, hq⟩⟩
    · exact ⟨.nilIface, fun h => absurd h hi⟩
  obtain ⟨F, hF⟩ : ∃ F : Nat → Value, ∀ i, i < L.length → ∃ g o, a = some ⟨g, o, none⟩ ∧ g < w.heap.size ∧ (w.cell? ⟨g, o + i * 5, none⟩ = some (.int .i64 (L.getD i rec0).id) ∧ w.cell? ⟨g, o + i * 5 + 1, none⟩ = some (.int .i64 (L.getD i rec0).ver) ∧ w.cell? ⟨g, o + i * 5 + 2, none⟩ = some (.int .i64 (L.getD i rec0).kind) ∧
      w.cell? ⟨g, o + i * 5 + 3, none⟩ = some (.string (S (L.getD i rec0).lang)) ∧ w.cell? ⟨g, o + i * 5 + 4, none⟩ = some (F i)) ∧ FL (F i) (L.getD i rec0).fields w := ⟨fun i => Classical.choose (hch i), fun i => Classical.choose_spec (hch i)⟩
  have hg : ∀ i, i < L.length → ((List.range L.length).map F).getD i .nilIface = F i := fun i hi => by
    rw [List.getD_eq_getElem?_getD, List.getElem?_map, List.getElem?_range hi]
    simp
  refine ⟨a, cap, (List.range L.length).map F, rfl, hc, hm, hn, by simp, fun i hi => ?_, fun g o s ha hne => ?_⟩
  · rw [hg i hi]
    obtain ⟨g, o, _, _, _, hq⟩ := hF i hi
    exact hq
  · have h0 : 0 < L.length := List.length_pos_iff.2 hne
    obtain ⟨g', o', h1, h2, _⟩ := hF 0 h0
    rw [h1] at ha
    obtain ⟨rfl, rfl, rfl⟩ : g' = g ∧ o' = o ∧ none = s := by
      have := Option.some.inj ha
      injection this with a1 a2 a3
      exact ⟨a1, a2, a3⟩
    refine ⟨rfl, h2, cellsR_news L _ _ (by simp) fun i hi => ?_⟩
    obtain ⟨g2, o2, h3, _, h5, _⟩ := hF i hi
    rw [h1] at h3
    have := Option.some.inj h3
    injection this with a1 a2 a3
    subst a1
    subst a2
    rw [hg i hi]
    exact h5
theorem infoRec : (Tryz.prog.info? 33).map (fun i => (i.zero, i.size, i.bytes)) = some (some (.agg #[.int .i64 0, .int .i64 0, .int .i64 0, .string ⟨#[]⟩, .slice none 0 0]), 5, 64) := by kernel_rfl
theorem info_rec : ∃ i0, Tryz.prog.info? 33 = some i0 ∧ i0.zero = some (.agg #[.int .i64 0, .int .i64 0, .int .i64 0, .string ⟨#[]⟩, .slice none 0 0]) ∧ i0.size = 5 ∧ i0.bytes = 64 := by
  obtain ⟨i0, h0, h2⟩ := Option.map_eq_some_iff.1 infoRec
  simp only [Prod.mk.injEq] at h2
  exact ⟨i0, h0, h2.1, h2.2.1, h2.2.2⟩
theorem cells_five (w : World) (a b c d e : Value) (t : TypeId) : ∀ j u, [a, b, c, d, e][j]? = some u → (w.alloc (.cells #[a, b, c, d, e] t)).cell? ((⟨w.heap.size, 0, none⟩ : Addr).add j) = some u := by
  intro j u hj
  match j, hj with
  | 0, hj => simp at hj; subst hj; simp [Addr.add]
  | 1, hj => simp at hj; subst hj; simp [Addr.add]
  | 2, hj => simp at hj; subst hj; simp [Addr.add]
  | 3, hj => simp at hj; subst hj; simp [Addr.add]
  | 4, hj => simp at hj; subst hj; simp [Addr.add]
  | (j + 5), hj => simp at hj
def RCells (N : Nat) (id ver kind : Int) (lang : ByteArray) (fv : Value) (wr : World) : Prop :=
  (wr.cell? ⟨N, 0, none⟩ = some (.int .i64 id) ∧ wr.cell? ⟨N, 1, none⟩ = some (.int .i64 ver) ∧ wr.cell? ⟨N, 2, none⟩ = some (.int .i64 kind) ∧ wr.cell? ⟨N, 3, none⟩ = some (.string lang) ∧ wr.cell? ⟨N, 4, none⟩ = some fv) ∧
  (wr.frozen? ⟨N, 0, none⟩ = false ∧ wr.frozen? ⟨N, 1, none⟩ = false ∧ wr.frozen? ⟨N, 2, none⟩ = false ∧ wr.frozen? ⟨N, 3, none⟩ = false ∧ wr.frozen? ⟨N, 4, none⟩ = false)
theorem rcells {N : Nat} {id ver kind : Int} {lang : ByteArray} {fv : Value} {wr : World} (h : wr.heap[N]? = some (.cells #[.int .i64 id, .int .i64 ver, .int .i64 kind, .string lang, fv] 33 (0, 0))) : RCells N id ver kind lang fv wr := by
  refine ⟨⟨?_, ?_, ?_, ?_, ?_⟩, Lib.frozen_of_heap h 0, Lib.frozen_of_heap h 1, Lib.frozen_of_heap h 2, Lib.frozen_of_heap h 3, Lib.frozen_of_heap h 4⟩ <;> (rw [Lib.cell_of_heap h]; rfl)
theorem results_row_tmp10 {P : Program} {fn : Func} {p u : Tmp} {ty : TypeId} (h : fn.results = #[.cell p ty, .tmp u]) (tmps : Array Value) (w : World) (g : Nat) (t : TypeId) (cs : Array Value) (fr : Nat × Nat) (d : TypeDesc)
    (hp : tmps.getD p undef = .pointer (some ⟨g, 0, none⟩)) (hg : w.heap[g]? = some (.cells cs t fr))
    (hu : P.underlying ty = some d) (hd : (match d with | .struct _ | .array _ _ => true | _ => false) = true) (hi : (P.info? ty).map (·.size) = some cs.size) :
    (results fn tmps).run P w = .ok (.tuple #[.agg cs, tmps.getD u undef]) w := by
  rw [results_cell_tmp h, hp]
  simp [asAddr, run_loadVar_row w g t ty cs fr d hg hu hd hi, Result.andThen]
/-- A record stored in its box. -/
def setR5 (w : World) (b : Nat) (x0 x1 x2 x3 x4 : Value) : World := ((((w.setCell ⟨b, 0, none⟩ x0).setCell ⟨b, 1, none⟩ x1).setCell ⟨b, 2, none⟩ x2).setCell ⟨b, 3, none⟩ x3).setCell ⟨b, 4, none⟩ x4
theorem rec_set5 {w : World} {b : Nat} {c0 c1 c2 c3 c4 x0 x1 x2 x3 x4 : Value} (h : w.heap[b]? = some (.cells #[c0, c1, c2, c3, c4] 33 (0, 0))) :
    (setR5 w b x0 x1 x2 x3 x4).heap[b]? = some (.cells #[x0, x1, x2, x3, x4] 33 (0, 0)) := by
  simp [setR5, World.setCell, Array.getElem?_modify, h]
theorem rec_other {w : World} {b : Nat} {x0 x1 x2 x3 x4 : Value} (i : Nat) (h : i ≠ b) : (setR5 w b x0 x1 x2 x3 x4).heap[i]? = w.heap[i]? := by
  unfold setR5
  rw [heap_setn _ _ _ _ (by exact h), heap_setn _ _ _ _ (by exact h), heap_setn _ _ _ _ (by exact h), heap_setn _ _ _ _ (by exact h), heap_setn _ _ _ _ (by exact h)]
theorem rec_below5 {w W : World} {b : Nat} {x0 x1 x2 x3 x4 : Value} (h : Below b w W) : Below b w (setR5 W b x0 x1 x2 x3 x4) :=
  ((((h.setCell (p := ⟨b, 0, none⟩) (Nat.le_refl _) x0).setCell (p := ⟨b, 1, none⟩) (Nat.le_refl _) x1).setCell (p := ⟨b, 2, none⟩) (Nat.le_refl _) x2).setCell (p := ⟨b, 3, none⟩) (Nat.le_refl _) x3).setCell (p := ⟨b, 4, none⟩) (Nat.le_refl _) x4
theorem rec_size {w : World} {b : Nat} {x0 x1 x2 x3 x4 : Value} : (setR5 w b x0 x1 x2 x3 x4).heap.size = w.heap.size := by simp [setR5, World.setCell]
theorem fl_none (B : Nat) (w : World) : New B (FL (.slice none 0 0) []) w := fun _ _ _ => ⟨none, 0, rfl, Nat.le_refl _, Nat.zero_le _, fun _ => rfl, fun i hi => by cases hi⟩
end

section
open Go.RowKit Go.PlainAid
theorem fcells4 {w : World} {b : Nat} {c0 c1 c2 c3 : Value} (h : w.heap[b]? = some (.cells #[c0, c1, c2, c3] 24 (0, 0))) :
    (w.cell? ⟨b, 0, none⟩ = some c0 ∧ w.cell? ⟨b, 1, none⟩ = some c1 ∧ w.cell? ⟨b, 2, none⟩ = some c2 ∧ w.cell? ⟨b, 3, none⟩ = some c3) ∧
    (w.frozen? ⟨b, 0, none⟩ = false ∧ w.frozen? ⟨b, 1, none⟩ = false ∧ w.frozen? ⟨b, 2, none⟩ = false ∧ w.frozen? ⟨b, 3, none⟩ = false) := by
  refine ⟨⟨?_, ?_, ?_, ?_⟩, Lib.frozen_of_heap h 0, Lib.frozen_of_heap h 1, Lib.frozen_of_heap h 2, Lib.frozen_of_heap h 3⟩
  · rw [Lib.cell_of_heap h]; rfl
  · rw [Lib.cell_of_heap h]; rfl
  · rw [Lib.cell_of_heap h]; rfl
  · rw [Lib.cell_of_heap h]; rfl
def setF4 (w : World) (b : Nat) (x0 x1 x2 x3 : Value) : World := (((w.setCell ⟨b, 0, none⟩ x0).setCell ⟨b, 1, none⟩ x1).setCell ⟨b, 2, none⟩ x2).setCell ⟨b, 3, none⟩ x3
theorem setF4_heap {w : World} {b : Nat} {c0 c1 c2 c3 x0 x1 x2 x3 : Value} (h : w.heap[b]? = some (.cells #[c0, c1, c2, c3] 24 (0, 0))) :
    (setF4 w b x0 x1 x2 x3).heap[b]? = some (.cells #[x0, x1, x2, x3] 24 (0, 0)) := by
  unfold setF4
  simp [World.setCell, Array.getElem?_modify, h]
theorem setF4_below {w0 w : World} {b B : Nat} (h : Below B w0 w) (hb : B ≤ b) (x0 x1 x2 x3 : Value) : Below B w0 (setF4 w b x0 x1 x2 x3) :=
  (((h.setCell (p := ⟨b, 0, none⟩) hb x0).setCell (p := ⟨b, 1, none⟩) hb x1).setCell (p := ⟨b, 2, none⟩) hb x2).setCell (p := ⟨b, 3, none⟩) hb x3
theorem setF4_other {w : World} {b : Nat} (x0 x1 x2 x3 : Value) (g : Nat) (hg : g ≠ b) : (setF4 w b x0 x1 x2 x3).heap[g]? = w.heap[g]? := by
  unfold setF4
  rw [heap_setn _ _ _ _ hg, heap_setn _ _ _ _ hg, heap_setn _ _ _ _ hg, heap_setn _ _ _ _ hg]
theorem setF4_size (w : World) (b : Nat) (x0 x1 x2 x3 : Value) : (setF4 w b x0 x1 x2 x3).heap.size = w.heap.size := by
  unfold setF4
  simp [World.setCell]

/-- A copy of a field: its subfields lie in a row of the call's own, behind its two boxes. -/
theorem pclone_any (f : Fld) (u : Value) (w : World) (hu : QL u f.subs w) (hs : f.subs.length ≤ 100000) :
    Calls Tryz.prog 30 #[FV f u] w fun e w' => ∃ v', e = .returned (FV f v') ∧ SB (w.heap.size + 2) v' f.subs w' ∧ Below w.heap.size w w' := by
  unfold FV
  obtain ⟨a, cap, rfl, _, _⟩ := hu.length
  obtain ⟨W0, hW0⟩ : ∃ W0, (w.alloc (.cells #[.string (S f.tag), .string (S f.ind), .slice a f.subs.length cap, .int .i64 f.auth] 24)).alloc (.cells #[.string ⟨#[]⟩, .string ⟨#[]⟩, .slice none 0 0, .int .i64 0] 24) = W0 := ⟨_, rfl⟩
  have b0 : Below w.heap.size w W0 := by rw [← hW0]; exact ((Below.refl w.heap.size w).alloc (Nat.le_refl _) _).alloc (by simp) _
  have hsz0 : W0.heap.size = w.heap.size + 2 := by rw [← hW0]; simp
  have hF : W0.heap[w.heap.size]? = some (.cells #[.string (S f.tag), .string (S f.ind), .slice a f.subs.length cap, .int .i64 f.auth] 24 (0, 0)) := by
    rw [← hW0]
    exact (Below.heap_alloc _ _ _ (by simp)).trans (heap_alloc_new w _)
  have hR : W0.heap[w.heap.size + 1]? = some (.cells #[.string ⟨#[]⟩, .string ⟨#[]⟩, .slice none 0 0, .int .i64 0] 24 (0, 0)) := by
    rw [← hW0]
    have := heap_alloc_new (w.alloc (.cells #[.string (S f.tag), .string (S f.ind), .slice a f.subs.length cap, .int .i64 f.auth] 24)) (.cells #[.string ⟨#[]⟩, .string ⟨#[]⟩, .slice none 0 0, .int .i64 0] 24)
    simpa using this
  have hlt : w.heap.size < W0.heap.size := by omega
  have hlt1 : w.heap.size + 1 < W0.heap.size := by omega
  have cC := Lib.hid (sclone_any f.subs _ W0 (hu.after b0) hs)
  rw [hsz0] at cC
  have HW0 := Lib.hid hW0
  have HF := Lib.hid (fun (W : World) (h : Below (w.heap.size + 2) W0 W) => (h.block _ (by omega)).trans hF)
  have HR := Lib.hid (fun (W : World) (h : Below (w.heap.size + 2) W0 W) => (h.block _ (by omega)).trans hR)
  have HB0 := Lib.hid b0
  have k2 : W0.cell? ⟨w.heap.size, 2, none⟩ = some (.slice a f.subs.length cap) := (fcells4 hF).1.2.2.1
  have HSz := Lib.hid hsz0
  clear hW0 hF hR hu b0 hsz0 hlt hlt1
  generalize hsb : f.subs = sb at *
  clear hsb
  generalize hn : sb.length = n at *
  have HN := Lib.hid hn
  clear hn
  generalize S f.tag = t0 at *
  generalize S f.ind = t1 at *
  generalize f.auth = t3 at *
  go_enter Tryz.func30, Tryz.ntmps30
  go_upto_region 1 with fail
  rw [HW0.out]
  go_wp2_with fail
  refine cC.out.mono ?_
  rintro e w1 ⟨v, rfl, hown, hb1⟩
  have hF1 := HF.out w1 hb1
  have hR1 := HR.out w1 hb1
  have hS1 : SB (w.heap.size + 2) v sb w1 := by unfold SB; rw [HN.out]; exact hown
  obtain ⟨⟨p0, p1, p2, p3⟩, q0, q1, q2, q3⟩ := fcells4 hF1
  obtain ⟨⟨r0, r1, r2, r3⟩, s0, s1, s2, s3⟩ := fcells4 hR1
  have HS1 := Lib.hid hS1
  have HF1 := Lib.hid hF1
  have HR1 := Lib.hid hR1
  have HB1 : RowKit.Hid (Below w.heap.size w w1) := HB0.out.trans (hb1.mono (by omega))
  obtain ⟨ao, cp, rfl⟩ := own_form hown
  have HFin : RowKit.Hid ((setF4 (w1.setCell ⟨w.heap.size, 2, none⟩ (.slice ao n cp)) (w.heap.size + 1) (.string t0) (.string t1) (.slice ao n cp) (.int .i64 t3)).heap[w.heap.size + 1]? = some (.cells #[.string t0, .string t1, .slice ao n cp, .int .i64 t3] 24 (0, 0))) :=
    setF4_heap ((heap_setn _ _ _ _ (by simp)).trans HR1.out)
  have HSF : RowKit.Hid (SB (w.heap.size + 2) (.slice ao n cp) sb (setF4 (w1.setCell ⟨w.heap.size, 2, none⟩ (.slice ao n cp)) (w.heap.size + 1) (.string t0) (.string t1) (.slice ao n cp) (.int .i64 t3))) :=
    HS1.out.kept (fun i hi hl => (setF4_other _ _ _ _ i (by omega)).trans (heap_setn _ _ _ _ (by simp; omega)))
  have HBF : RowKit.Hid (Below w.heap.size w (setF4 (w1.setCell ⟨w.heap.size, 2, none⟩ (.slice ao n cp)) (w.heap.size + 1) (.string t0) (.string t1) (.slice ao n cp) (.int .i64 t3))) :=
    setF4_below (HB1.out.setCell (p := ⟨w.heap.size, 2, none⟩) (Nat.le_refl _) _) (by omega) _ _ _ _
  unfold setF4 at HFin HSF HBF
  clear hown hb1 hF1 hR1 hS1 cC k2
  go_wp2
  (try simp only [Exit.inBlock, Exit.then])
  refine bodyPost_ret (results_cell_row rfl _ _ (w.heap.size + 1) _ _ _ _ rfl HFin.out Tryz.underlying24 rfl (by kernel_rfl)) rfl ?_
  exact ⟨_, rfl, HSF.out, HBF.out⟩
end

end Go.Proofs.YthjdopnoophigaaGreatDoor
