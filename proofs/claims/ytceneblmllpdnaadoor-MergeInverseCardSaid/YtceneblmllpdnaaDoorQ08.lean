/- Merged: Plain16B, FL, R16A. -/
import Derived.Test.YtceneblmllpdnaaDoorQ07
import Derived.Test.YtceneblmllpdnaaDoorQ02
import Derived.Laws.AppendOwn
import Derived.OwnWalk
import Derived.Laws.AppendOwnNone
import Derived.Test.YtceneblmllpdnaaDoorQ03
import Derived.RegionTactic
import Derived.BigRegion
namespace Go.Proofs.YtceneblmllpdnaaDoor

section
open Go.RowKit
/-- The error of Merge. -/
def errM (a b : Rec) (l : List Kp) : Int :=
  if rightRI a ≠ 0 then rightRI a else if rightRI b ≠ 0 then rightRI b else if a.id = 0 ∨ b.id = 0 then 2 else if a.id = b.id then 1 else if a.ver ≠ b.ver then 20
  else if 64 < (mergeF a.fields b.fields l).1.length then 13 else 0
/-- Do the numbers ascend strictly from one to the next? -/
def ascN : List Int → Bool
  | [] => true
  | [_] => true
  | x :: y :: t => decide (x < y) && ascN (y :: t)
theorem ascN_pair : ∀ T : List Int, T.Pairwise (· < ·) → ascN T = true
  | [], _ => rfl
  | [_], _ => rfl
  | x :: y :: t, h => by
    rw [List.pairwise_cons] at h
    rw [ascN, ascN_pair (y :: t) h.2, Bool.and_true]
    exact decide_eq_true (h.1 y List.mem_cons_self)
/-- The error of a parting. -/
def rightP (into : Int) (b : Rec) (T : List Int) : Int :=
  if into < 1 ∨ 9999 < into then 2 else if rightRI b ≠ 0 then rightRI b else if b.id = 0 then 2 else if b.id = into then 1
  else if (T.all fun k => decide (0 ≤ k) && decide (k < b.fields.length)) = false then 2 else if ascN T = false then 7 else 0
theorem rightRI_id (r : Rec) (h : rightRI r = 0) : 0 ≤ r.id ∧ r.id ≤ 9999 := by
  unfold rightRI at h
  split at h
  · cases h
  · omega
theorem errM_ok (a b : Rec) (l : List Kp) (h : errM a b l = 0) : rightRI a = 0 ∧ rightRI b = 0 ∧ a.id ≠ 0 ∧ b.id ≠ 0 ∧ a.id ≠ b.id ∧ a.ver = b.ver ∧ (mergeF a.fields b.fields l).1.length ≤ 64 := by
  unfold errM at h
  by_cases h1 : rightRI a = 0
  · rw [if_neg (fun g => g h1)] at h
    by_cases h2 : rightRI b = 0
    · rw [if_neg (fun g => g h2)] at h
      by_cases h3 : a.id = 0 ∨ b.id = 0
      · rw [if_pos h3] at h; omega
      rw [if_neg h3] at h
      by_cases h4 : a.id = b.id
      · rw [if_pos h4] at h; omega
      rw [if_neg h4] at h
      by_cases h5 : a.ver = b.ver
      · rw [if_neg (fun g => g h5)] at h
        by_cases h6 : 64 < (mergeF a.fields b.fields l).1.length
        · rw [if_pos h6] at h; omega
        exact ⟨h1, h2, fun g => h3 (.inl g), fun g => h3 (.inr g), h4, h5, by omega⟩
      · rw [if_pos h5] at h; omega
    · rw [if_pos h2] at h; exact absurd h h2
  · rw [if_pos h1] at h; exact absurd h h1
/-- The parting of a merge is right. -/
theorem parting_right (a b : Rec) (l : List Kp) (h : errM a b l = 0) : rightP a.id b ((mergeF a.fields b.fields l).2.map fun k : Nat => (k : Int)) = 0 := by
  obtain ⟨h1, h2, h3, h4, h5, -, -⟩ := errM_ok a b l h
  have hid := rightRI_id a h1
  obtain ⟨-, hT, hP⟩ := merge_ok a.fields b.fields l fd0
  have ha : ((mergeF a.fields b.fields l).2.map fun k : Nat => (k : Int)).all (fun k => decide (0 ≤ k) && decide (k < b.fields.length)) = true := by
    rw [List.all_eq_true]
    intro k hk
    obtain ⟨j, hj, rfl⟩ := List.mem_map.1 hk
    have := hT j hj
    simp only [Bool.and_eq_true, decide_eq_true_eq]
    omega
  have hs : ascN ((mergeF a.fields b.fields l).2.map fun k : Nat => (k : Int)) = true := by
    refine ascN_pair _ (List.pairwise_map.2 (hP.imp fun {x y} h => ?_))
    omega
  unfold rightP
  rw [if_neg (by omega), if_neg (fun g => g h2), if_neg h4, if_neg (fun g => h5 g.symm), ha, hs]
  simp
/-- The standard rules. -/
def stdK : List Kp := [([49, 48, 48], 2), ([49, 49, 48], 2), ([50, 52, 53], 2), ([50, 53, 48], 2), ([50, 54, 48], 2), ([50, 54, 52], 2), ([51, 48, 48], 2), ([52, 57, 48], 2), ([56, 51, 48], 2), ([56, 53, 54], 0)]
/-! The examples. -/
def one16 (t v : List UInt8) : Fld := ⟨t, [32, 32], [(97, v)], 0⟩
def into16 : Rec := ⟨1, 3, 1, [101, 110, 103], [one16 [50, 52, 53] [68, 111, 103, 115], one16 [54, 53, 48] [68, 111, 103, 115]]⟩
def from16 : Rec := ⟨2, 3, 1, [101, 110, 103], [one16 [50, 52, 53] [65, 108, 108, 32, 100, 111, 103, 115], one16 [54, 53, 48] [68, 111, 103, 115], one16 [54, 53, 48] [80, 101, 116, 115]]⟩
theorem ex16_err : errM into16 from16 stdK = 0 := by decide +kernel
theorem ex16_taken : (mergeF into16.fields from16.fields stdK).2 = [2] := by decide +kernel
theorem ex16_fields : (mergeF into16.fields from16.fields stdK).1 = into16.fields ++ [one16 [54, 53, 48] [80, 101, 116, 115]] := by
  rw [(merge_ok into16.fields from16.fields stdK fd0).1, ex16_taken]
  rfl
theorem ex16_same : errM into16 into16 [] = 1 := by decide +kernel
theorem ex16_856 : howK stdK [56, 53, 54] = 0 := by decide +kernel
theorem ex16_none : howK [] [50, 52, 53] = 1 := rfl
end

section
open Go.RowKit
/-- A slice of these fields. -/
def FL (v : Value) (L : List Fld) (w : World) : Prop :=
  ∃ a cap, v = .slice a L.length cap ∧ L.length ≤ cap ∧ cap ≤ maxLen ∧ (a = none → cap = 0) ∧ ∀ i, i < L.length → ∃ g o u, a = some ⟨g, o, none⟩ ∧ g < w.heap.size ∧
    w.cell? ⟨g, o + i * 4, none⟩ = some (.string (S (L.getD i fd0).tag)) ∧ w.cell? ⟨g, o + i * 4 + 1, none⟩ = some (.string (S (L.getD i fd0).ind)) ∧
    w.cell? ⟨g, o + i * 4 + 2, none⟩ = some u ∧ w.cell? ⟨g, o + i * 4 + 3, none⟩ = some (.int .i64 (L.getD i fd0).auth) ∧ QL u (L.getD i fd0).subs w
theorem FL.after {v : Value} {L : List Fld} {w w' : World} (h : FL v L w) (hb : Below w.heap.size w w') : FL v L w' := by
  obtain ⟨a, cap, rfl, hc, hm, hn, hx⟩ := h
  refine ⟨a, cap, rfl, hc, hm, hn, fun i hi => ?_⟩
  obtain ⟨g, o, u, rfl, hg, h0, h1, h2, h3, hq⟩ := hx i hi
  exact ⟨g, o, u, rfl, Nat.lt_of_lt_of_le hg hb.size, (hb.cell (p := ⟨g, o + i * 4, none⟩) hg).trans h0, (hb.cell (p := ⟨g, o + i * 4 + 1, none⟩) hg).trans h1,
    (hb.cell (p := ⟨g, o + i * 4 + 2, none⟩) hg).trans h2, (hb.cell (p := ⟨g, o + i * 4 + 3, none⟩) hg).trans h3, hq.after hb⟩
theorem FL.length {v : Value} {L : List Fld} {w : World} (h : FL v L w) : ∃ a cap, v = .slice a L.length cap ∧ L.length ≤ cap ∧ cap ≤ maxLen := by
  obtain ⟨a, cap, h1, h2, h3, _⟩ := h
  exact ⟨a, cap, h1, h2, h3⟩
/-- What lies at one field's place. -/
theorem FL.at {v : Value} {L : List Fld} {w : World} (h : FL v L w) (k : Nat) (hk : k < L.length) : ∃ g o cap u, v = .slice (some ⟨g, o, none⟩) L.length cap ∧ g < w.heap.size ∧
    w.cell? ⟨g, o + k * 4, none⟩ = some (.string (S (L.getD k fd0).tag)) ∧ w.cell? ⟨g, o + k * 4 + 1, none⟩ = some (.string (S (L.getD k fd0).ind)) ∧
    w.cell? ⟨g, o + k * 4 + 2, none⟩ = some u ∧ w.cell? ⟨g, o + k * 4 + 3, none⟩ = some (.int .i64 (L.getD k fd0).auth) ∧ QL u (L.getD k fd0).subs w := by
  obtain ⟨a, cap, rfl, hc, hm, hn, hx⟩ := h
  obtain ⟨g, o, u, rfl, hh⟩ := hx k hk
  exact ⟨g, o, cap, u, rfl, hh⟩
/-- A record. -/
def RV (r : Rec) (u : Value) : Value := .agg #[.int .i64 r.id, .int .i64 r.ver, .int .i64 r.kind, .string (S r.lang), u]

/-! Rows of the call's own. -/
def encF (f : Fld) (u : Value) : List Value := [.string (S f.tag), .string (S f.ind), u, .int .i64 f.auth]
def cellsF : List Fld → List Value → List Value
  | f :: t, u :: us => encF f u ++ cellsF t us
  | _, _ => []
theorem cellsF_snoc : ∀ (L : List Fld) (us : List Value) (f : Fld) (u : Value), us.length = L.length → cellsF (L ++ [f]) (us ++ [u]) = cellsF L us ++ encF f u
  | [], [], f, u, _ => by simp [cellsF]
  | a :: s, x :: xs, f, u, h => by
    have := cellsF_snoc s xs f u (by simpa using h)
    simp only [List.cons_append, cellsF, this, List.append_assoc]
theorem cellsF_app : ∀ (L : List Fld) (us : List Value) (M : List Fld) (vs : List Value), us.length = L.length → cellsF (L ++ M) (us ++ vs) = cellsF L us ++ cellsF M vs
  | [], [], M, vs, _ => by simp [cellsF]
  | a :: s, x :: xs, M, vs, h => by
    have := cellsF_app s xs M vs (by simpa using h)
    simp only [List.cons_append, cellsF, this, List.append_assoc]
theorem cellsF_at : ∀ (L : List Fld) (us : List Value) (i : Nat), us.length = L.length → i < L.length → (cellsF L us)[i * 4]? = some (.string (S (L.getD i fd0).tag)) ∧ (cellsF L us)[i * 4 + 1]? = some (.string (S (L.getD i fd0).ind)) ∧
    (cellsF L us)[i * 4 + 2]? = some (us.getD i .nilIface) ∧ (cellsF L us)[i * 4 + 3]? = some (.int .i64 (L.getD i fd0).auth)
  | [], _, _, _, h => by cases h
  | a :: s, x :: xs, 0, _, _ => ⟨rfl, rfl, rfl, rfl⟩
  | a :: s, x :: xs, i + 1, hl, h => by
    have := cellsF_at s xs i (by simpa using hl) (by simpa using h)
    have e : cellsF (a :: s) (x :: xs) = .string (S a.tag) :: .string (S a.ind) :: x :: .int .i64 a.auth :: cellsF s xs := rfl
    rw [e, show (i + 1) * 4 = i * 4 + 1 + 1 + 1 + 1 by omega]
    simp only [List.getElem?_cons_succ]
    exact this
theorem cellsF_length : ∀ (L : List Fld) (us : List Value), us.length = L.length → (cellsF L us).length = L.length * 4
  | [], _, _ => by simp [cellsF]
  | f :: t, u :: us, h => by
    have := cellsF_length t us (by simpa using h)
    simp only [cellsF, List.length_append, this, encF, List.length_cons, List.length_nil]
    omega
theorem cellsF_news {g : Nat} {w : World} : ∀ (L : List Fld) (us : List Value) (o : Nat), us.length = L.length →
    (∀ i, i < L.length → w.cell? ⟨g, o + i * 4, none⟩ = some (.string (S (L.getD i fd0).tag)) ∧ w.cell? ⟨g, o + i * 4 + 1, none⟩ = some (.string (S (L.getD i fd0).ind)) ∧
      w.cell? ⟨g, o + i * 4 + 2, none⟩ = some (us.getD i .nilIface) ∧ w.cell? ⟨g, o + i * 4 + 3, none⟩ = some (.int .i64 (L.getD i fd0).auth)) →
    ∀ j u, (cellsF L us)[j]? = some u → w.cell? ⟨g, o + j, none⟩ = some u
  | [], _, _, _, _, j, u, hu => by simp [cellsF] at hu
  | f :: t, x :: xs, o, hl, h, j, u, hu => by
    have e : cellsF (f :: t) (x :: xs) = .string (S f.tag) :: .string (S f.ind) :: x :: .int .i64 f.auth :: cellsF t xs := rfl
    rw [e] at hu
    have h0 := h 0 (by simp)
    match j, hu with
    | 0, hu => simp at hu; subst hu; simpa using h0.1
    | 1, hu => simp at hu; subst hu; simpa using h0.2.1
    | 2, hu => simp at hu; subst hu; simpa using h0.2.2.1
    | 3, hu => simp at hu; subst hu; simpa using h0.2.2.2
    | j + 4, hu =>
      simp only [List.getElem?_cons_succ] at hu
      have := cellsF_news t xs (o + 4) (by simpa using hl) (fun i hi => by
        have := h (i + 1) (by simpa using hi)
        rw [show o + (i + 1) * 4 = o + 4 + i * 4 by omega] at this
        exact this) j u hu
      rwa [show o + 4 + j = o + (j + 4) by omega] at this
theorem QL.one {u : Value} {L : List Sub} {w : World} (h : QL u L w) : u.oneCell' = true := by
  obtain ⟨a, cap, rfl, _⟩ := h
  rfl
theorem cellsF_one : ∀ (L : List Fld) (us : List Value), (∀ u ∈ us, u.oneCell' = true) → ∀ u ∈ cellsF L us, u.oneCell' = true
  | [], _, _, u, hu => by simp [cellsF] at hu
  | f :: t, [], _, u, hu => by simp [cellsF] at hu
  | f :: t, x :: xs, h, u, hu => by
    simp only [cellsF, List.mem_append, encF, List.mem_cons, List.not_mem_nil, or_false] at hu
    rcases hu with (rfl | rfl | rfl | rfl) | hu
    · rfl
    · rfl
    · exact h _ (by simp)
    · rfl
    · exact cellsF_one t xs (fun y hy => h y (List.mem_cons_of_mem _ hy)) u hu
/-- A row of these fields of the call's own, from block B on, nil while it is empty; their subfields lie in W0. -/
def FR (W0 : World) (B : Nat) (v : Value) (L : List Fld) (w : World) : Prop :=
  ∃ us : List Value, us.length = L.length ∧ w.ownsRow B 45 4 v L.length (cellsF L us) ∧ ∀ i, i < L.length → QL (us.getD i .nilIface) (L.getD i fd0).subs W0
theorem FR.nil (W0 w : World) (B : Nat) : FR W0 B (.slice none 0 0) [] w := ⟨[], rfl, World.ownsRow_nil _ _ _ _, fun i hi => by cases hi⟩
theorem FR.empty (W0 w : World) (B : Nat) (h : B ≤ w.heap.size) : FR W0 B (.slice (some ⟨w.heap.size, 0, none⟩) 0 0) [] (w.alloc (.cells #[] 45)) :=
  ⟨[], rfl, World.ownsRow_made w #[] 0 h (Nat.zero_le _) rfl, fun i hi => by cases hi⟩
theorem FR.fl {W0 : World} {B : Nat} {v : Value} {L : List Fld} {w : World} (h : FR W0 B v L w) (hbel : Below W0.heap.size W0 w) : FL v L w := by
  obtain ⟨us, hl, hown, hq⟩ := h
  rcases hown.2 with ⟨rfl, h0⟩ | ⟨g, cap, cur, rfl, hb, hg, hc, hm, hs, ht⟩
  · have : L = [] := List.eq_nil_of_length_eq_zero h0
    subst this
    exact ⟨none, 0, rfl, Nat.le_refl _, Nat.zero_le _, fun _ => rfl, fun i hi => by cases hi⟩
  · have hadd : ∀ j, (⟨g, 0, none⟩ : Addr).add j = ⟨g, j, none⟩ := fun j => by unfold Addr.add; split <;> simp_all
    refine ⟨_, cap, rfl, hc, hm, (fun h => by cases h), fun i hi => ?_⟩
    have hcc := cellsF_at L us i hl hi
    have t0 := hown.cells (g := g) rfl _ _ hcc.1
    have t1 := hown.cells (g := g) rfl _ _ hcc.2.1
    have t2 := hown.cells (g := g) rfl _ _ hcc.2.2.1
    have t3 := hown.cells (g := g) rfl _ _ hcc.2.2.2
    rw [hadd] at t0 t1 t2 t3
    refine ⟨g, 0, us.getD i .nilIface, rfl, (Array.getElem?_eq_some_iff.1 hg).1, ?_⟩
    rw [Nat.zero_add]
    exact ⟨t0, t1, t2, t3, (hq i hi).after hbel⟩
theorem FR.after {W0 : World} {B : Nat} {v : Value} {L : List Fld} {w w' : World} (h : FR W0 B v L w) (hb : Below w.heap.size w w') : FR W0 B v L w' := by
  obtain ⟨us, h1, h2, h3⟩ := h
  exact ⟨us, h1, own_after h2 hb, h3⟩
theorem own_put {w : World} {B e size n : Nat} {v : Value} {xs : List Value} (h : w.ownsRow B e size v n xs) {p : Addr} (hp : p.block < B) (u : Value) : (w.setCell p u).ownsRow B e size v n xs := by
  refine ⟨h.1, ?_⟩
  rcases h.2 with hn | ⟨g, cap, cur, hv, hB', hg, rest⟩
  · exact .inl hn
  · exact .inr ⟨g, cap, cur, hv, hB', (Below.heap_setCell _ _ _ _ (by omega)).trans hg, rest⟩
theorem FR.put {W0 : World} {B : Nat} {v : Value} {L : List Fld} {w : World} (h : FR W0 B v L w) {p : Addr} (hp : p.block < B) (u : Value) : FR W0 B v L (w.setCell p u) := by
  obtain ⟨us, h1, h2, h3⟩ := h
  exact ⟨us, h1, own_put h2 hp u, h3⟩
theorem getD_app (us vs : List Value) (i : Nat) : (us ++ vs).getD i .nilIface = if i < us.length then us.getD i .nilIface else vs.getD (i - us.length) .nilIface := by
  rw [List.getD_eq_getElem?_getD]
  by_cases h : i < us.length
  · rw [if_pos h, List.getElem?_append_left h, List.getD_eq_getElem?_getD]
  · rw [if_neg h, List.getElem?_append_right (by omega), List.getD_eq_getElem?_getD]
theorem getD_appF (us vs : List Fld) (i : Nat) : (us ++ vs).getD i fd0 = if i < us.length then us.getD i fd0 else vs.getD (i - us.length) fd0 := by
  rw [List.getD_eq_getElem?_getD]
  by_cases h : i < us.length
  · rw [if_pos h, List.getElem?_append_left h, List.getD_eq_getElem?_getD]
  · rw [if_neg h, List.getElem?_append_right (by omega), List.getD_eq_getElem?_getD]
/-- What the walk needs for an append to a row: its cells; and the longer row again. -/
theorem FR.open {W0 : World} {B : Nat} {v : Value} {L : List Fld} {w : World} (h : FR W0 B v L w) :
    ∃ xs : List Value, w.ownsRow B 45 4 v L.length xs ∧ ∀ (M : List Fld) (vs : List Value) (v' : Value) (w' : World), vs.length = M.length → (∀ i, i < M.length → QL (vs.getD i .nilIface) (M.getD i fd0).subs W0) →
      w'.ownsRow B 45 4 v' (L.length + M.length) (xs ++ cellsF M vs) → FR W0 B v' (L ++ M) w' := by
  obtain ⟨us, hl, hown, hq⟩ := h
  refine ⟨_, hown, fun M vs v' w' hvl hvq hown' => ⟨us ++ vs, by rw [List.length_append, List.length_append, hl, hvl], ?_, fun i hi => ?_⟩⟩
  · rw [cellsF_app L us M vs hl, List.length_append]
    exact hown'
  · rw [getD_app, getD_appF, hl]
    by_cases h1 : i < L.length
    · rw [if_pos h1, if_pos h1]; exact hq i h1
    · rw [if_neg h1, if_neg h1]; exact hvq _ (by rw [List.length_append] at hi; omega)
/-- The subfields' values of a slice of fields. -/
theorem FL.vals {v : Value} {L : List Fld} {w : World} (h : FL v L w) : ∃ (a : Option Addr) (cap : Nat) (us : List Value), v = .slice a L.length cap ∧ L.length ≤ cap ∧ cap ≤ maxLen ∧ (a = none → cap = 0) ∧ us.length = L.length ∧ (∀ i, i < L.length → QL (us.getD i .nilIface) (L.getD i fd0).subs w) ∧
    ∀ i, i < L.length → ∃ g o, a = some ⟨g, o, none⟩ ∧ g < w.heap.size ∧ w.cell? ⟨g, o + i * 4, none⟩ = some (.string (S (L.getD i fd0).tag)) ∧ w.cell? ⟨g, o + i * 4 + 1, none⟩ = some (.string (S (L.getD i fd0).ind)) ∧
      w.cell? ⟨g, o + i * 4 + 2, none⟩ = some (us.getD i .nilIface) ∧ w.cell? ⟨g, o + i * 4 + 3, none⟩ = some (.int .i64 (L.getD i fd0).auth) := by
  obtain ⟨a, cap, rfl, hc, hm, hn, hx⟩ := h
  have hch : ∀ i, ∃ u, i < L.length → ∃ g o, a = some ⟨g, o, none⟩ ∧ g < w.heap.size ∧ w.cell? ⟨g, o + i * 4, none⟩ = some (.string (S (L.getD i fd0).tag)) ∧ w.cell? ⟨g, o + i * 4 + 1, none⟩ = some (.string (S (L.getD i fd0).ind)) ∧
      w.cell? ⟨g, o + i * 4 + 2, none⟩ = some u ∧ w.cell? ⟨g, o + i * 4 + 3, none⟩ = some (.int .i64 (L.getD i fd0).auth) ∧ QL u (L.getD i fd0).subs w := by
    intro i
    by_cases hi : i < L.length
    · obtain ⟨g, o, u, h1, h2⟩ := hx i hi
      exact ⟨u, fun _ => ⟨g, o, h1, h2⟩⟩
    · exact ⟨.nilIface, fun h => absurd h hi⟩
  obtain ⟨F, hF⟩ : ∃ F : Nat → Value, ∀ i, i < L.length → ∃ g o, a = some ⟨g, o, none⟩ ∧ g < w.heap.size ∧ w.cell? ⟨g, o + i * 4, none⟩ = some (.string (S (L.getD i fd0).tag)) ∧ w.cell? ⟨g, o + i * 4 + 1, none⟩ = some (.string (S (L.getD i fd0).ind)) ∧
      w.cell? ⟨g, o + i * 4 + 2, none⟩ = some (F i) ∧ w.cell? ⟨g, o + i * 4 + 3, none⟩ = some (.int .i64 (L.getD i fd0).auth) ∧ QL (F i) (L.getD i fd0).subs w := ⟨fun i => Classical.choose (hch i), fun i => Classical.choose_spec (hch i)⟩
  have hg : ∀ i, i < L.length → ((List.range L.length).map F).getD i .nilIface = F i := fun i hi => by
    rw [List.getD_eq_getElem?_getD, List.getElem?_map, List.getElem?_range hi]
    simp
  refine ⟨a, cap, (List.range L.length).map F, rfl, hc, hm, hn, by simp, fun i hi => ?_, fun i hi => ?_⟩
  · rw [hg i hi]
    obtain ⟨g, o, _, _, _, _, _, _, hq⟩ := hF i hi
    exact hq
  · rw [hg i hi]
    obtain ⟨g, o, h1, h2, h3, h4, h5, h6, _⟩ := hF i hi
    exact ⟨g, o, h1, h2, h3, h4, h5, h6⟩
theorem infoFld : (Tryd.prog.info? 45).map (fun i => (i.zero, i.size, i.bytes)) = some (some (.agg #[.string ⟨#[]⟩, .string ⟨#[]⟩, .slice none 0 0, .int .i64 0]), 4, 64) := by kernel_rfl
theorem info_fld : ∃ i0, Tryd.prog.info? 45 = some i0 ∧ i0.zero = some (.agg #[.string ⟨#[]⟩, .string ⟨#[]⟩, .slice none 0 0, .int .i64 0]) ∧ i0.size = 4 ∧ i0.bytes = 64 := by
  obtain ⟨i0, h0, h2⟩ := Option.map_eq_some_iff.1 infoFld
  simp only [Prod.mk.injEq] at h2
  exact ⟨i0, h0, h2.1, h2.2.1, h2.2.2⟩
/-- Fields that can be appended: nothing at no address, or these cells there. -/
def NW (W0 : World) (ao : Option Addr) (M : List Fld) (w : World) : Prop :=
  (ao = none → M = []) ∧ ∀ ad, ao = some ad → ∃ us : List Value, us.length = M.length ∧ (∀ i, i < M.length → QL (us.getD i .nilIface) (M.getD i fd0).subs W0) ∧ ∀ j u, (cellsF M us)[j]? = some u → w.cell? (ad.add j) = some u
/-- append of a slice of fields to a row of the call's own. -/
theorem append_fr {ops : Array Oper} {rest : List Oper} {o : Oper} {a : Act} {Q : Exit → Act → World → Prop} (w : World) (hgd : o.guard = none) (s x : Operand)
    (ho : o.op = .call { callee := .builtin .append, args := #[s, x], argTypes := #[29, 29] })
    (W0 : World) (B : Nat) (v : Value) (L : List Fld) (hs : a.eval s = v) (hfr : FR W0 B v L w) (ao : Option Addr) (M : List Fld) (m c : Nat) (hx : a.eval x = .slice ao m c) (hm : M.length = m) (hc : ao = none → c = 0) (hN : NW W0 ao M w)
    (hz : L.length + M.length ≤ 100000) (hB : B ≤ w.heap.size) (N : Nat) (W1 : World) (hNB : N ≤ B) (hb : Below N W1 w)
    (h : ∀ v' w', FR W0 B v' (L ++ M) w' → Below N W1 w' → B ≤ w'.heap.size → (v' = .slice none 0 0 ↔ v = .slice none 0 0 ∧ m = 0) → wpList Tryd.prog ops Q rest (a.put o.dst v') w') : wpList Tryd.prog ops Q (o :: rest) a w := by
  obtain ⟨i0, hi, hz0, hz1, hz2⟩ := info_fld
  obtain ⟨xs, hrow, hpush⟩ := hfr.open
  cases ao with
  | none =>
    obtain rfl := hN.1 rfl
    obtain rfl := hc rfl
    obtain rfl : m = 0 := hm.symm
    refine wpList_append_own_none hgd s x _ ho B _ i0 4 Tryd.underlying29 hi v L.length xs hs hrow hx (h v w ?_ hb hB ?_)
    · rw [List.append_nil]; exact hfr
    · simp
  | some ad =>
    obtain ⟨us, hl, hq, hcell⟩ := hN.2 ad rfl
    refine wpList_append_own w hgd s x _ ho B _ i0 (.agg #[.string ⟨#[]⟩, .string ⟨#[]⟩, .slice none 0 0, .int .i64 0]) 4 64 Tryd.underlying29 hi hz0 hz1 hz2 rfl (by decide) v L.length xs hs hrow ad m c (cellsF M us) hx
      (by rw [cellsF_length M us hl, hm]) hcell (cellsF_one M us fun u hu => ?_) (by unfold maxLen; omega) (by omega) hB fun v' w' hown' hgrow hnil => h v' w' ?_ ?_ ?_ hnil
    · obtain ⟨i, hi, rfl⟩ := List.mem_iff_getElem.1 hu
      have := (hq i (by omega)).one
      rwa [List.getD_eq_getElem?_getD, List.getElem?_eq_getElem hi] at this
    · rw [← hm] at hown'
      exact hpush M us v' w' hl hq hown'
    · exact hb.grown hgrow (by omega) (fun j hj => Nat.le_trans hNB (hrow.lt j hj).1)
    · exact Nat.le_trans hB hgrow.size
theorem cells_four (w : World) (a b c d : Value) (t : TypeId) : ∀ j u, [a, b, c, d][j]? = some u → (w.alloc (.cells #[a, b, c, d] t)).cell? ((⟨w.heap.size, 0, none⟩ : Addr).add j) = some u := by
  intro j u hj
  match j, hj with
  | 0, hj => simp at hj; subst hj; simp [Addr.add]
  | 1, hj => simp at hj; subst hj; simp [Addr.add]
  | 2, hj => simp at hj; subst hj; simp [Addr.add]
  | 3, hj => simp at hj; subst hj; simp [Addr.add]
  | (j + 4), hj => simp at hj
end

section
open Go.RowKit Go.PlainAid
def kp0 : Kp := ([], 0)
theorem howK_hit : ∀ (l : List Kp) (t : List UInt8) (k : Nat), k < l.length → (∀ j, j < k → (l.getD j kp0).1 ≠ t) → (l.getD k kp0).1 = t → howK l t = (l.getD k kp0).2
  | [], _, _, h, _, _ => by cases h
  | x :: l, t, 0, _, _, h => by
    have h : x.1 = t := h
    rw [howK, if_pos h]
    rfl
  | x :: l, t, k + 1, hk, hj, h => by
    have h0 : x.1 ≠ t := hj 0 (by omega)
    rw [howK, if_neg h0]
    exact howK_hit l t k (by simpa using hk) (fun j hjk => hj (j + 1) (by omega)) h
theorem howK_miss : ∀ (l : List Kp) (t : List UInt8), (∀ j, j < l.length → (l.getD j kp0).1 ≠ t) → howK l t = 1
  | [], _, _ => rfl
  | x :: l, t, h => by
    have h0 : x.1 ≠ t := h 0 (by simp)
    rw [howK, if_neg h0]
    exact howK_miss l t fun j hj => h (j + 1) (by simpa using hj)
/-- A slice of rules of keeping. -/
def KpL (v : Value) (L : List Kp) (w : World) : Prop :=
  ∃ a cap, v = .slice a L.length cap ∧ L.length ≤ cap ∧ cap ≤ maxLen ∧ (a = none → cap = 0) ∧ ∀ i, i < L.length → ∃ g o, a = some ⟨g, o, none⟩ ∧ g < w.heap.size ∧
    w.cell? ⟨g, o + i * 2, none⟩ = some (.string (S (L.getD i kp0).1)) ∧ w.cell? ⟨g, o + i * 2 + 1, none⟩ = some (.int .i64 (L.getD i kp0).2)
theorem KpL.after {v : Value} {L : List Kp} {w w' : World} (h : KpL v L w) (hb : Below w.heap.size w w') : KpL v L w' := by
  obtain ⟨a, cap, rfl, hc, hm, hn, hx⟩ := h
  refine ⟨a, cap, rfl, hc, hm, hn, fun i hi => ?_⟩
  obtain ⟨g, o, rfl, hg, h0, h1⟩ := hx i hi
  exact ⟨g, o, rfl, Nat.lt_of_lt_of_le hg hb.size, (hb.cell (p := ⟨g, o + i * 2, none⟩) hg).trans h0, (hb.cell (p := ⟨g, o + i * 2 + 1, none⟩) hg).trans h1⟩
theorem KpL.opened {v : Value} {A : List Kp} {w : World} (h : KpL v A w) : ∃ a cap g o, v = .slice a A.length cap ∧ A.length ≤ cap ∧ cap ≤ maxLen ∧ (0 < A.length → a = some ⟨g, o, none⟩) ∧ ∀ W, Below w.heap.size w W → ∀ i, i < A.length →
    W.cell? ⟨g, o + i * 2, none⟩ = some (.string (S (A.getD i kp0).1)) ∧ W.cell? ⟨g, o + i * 2 + 1, none⟩ = some (.int .i64 (A.getD i kp0).2) := by
  obtain ⟨a, cap, rfl, hc, hm, hn, hx⟩ := h
  by_cases h0 : 0 < A.length
  · obtain ⟨g, o, rfl, -⟩ := hx 0 h0
    refine ⟨_, cap, g, o, rfl, hc, hm, fun _ => rfl, fun W hb i hi => ?_⟩
    obtain ⟨g', o', e, hg', h0, h1⟩ := hx i hi
    obtain ⟨rfl, rfl, -⟩ := Addr.mk.inj (Option.some.inj e)
    exact ⟨(hb.cell (p := ⟨_, _, none⟩) hg').trans h0, (hb.cell (p := ⟨_, _, none⟩) hg').trans h1⟩
  · exact ⟨a, cap, 0, 0, rfl, hc, hm, fun h => absurd h h0, fun W hb i hi => by omega⟩
theorem FL.open16 {v : Value} {A : List Fld} {w : World} (h : FL v A w) : ∃ a cap g o, ∃ us : Nat → Value, v = .slice a A.length cap ∧ A.length ≤ cap ∧ cap ≤ maxLen ∧ (0 < A.length → a = some ⟨g, o, none⟩) ∧ ∀ W, Below w.heap.size w W → ∀ i, i < A.length →
    (W.cell? ⟨g, o + i * 4, none⟩ = some (.string (S (A.getD i fd0).tag)) ∧ W.cell? ⟨g, o + i * 4 + 1, none⟩ = some (.string (S (A.getD i fd0).ind)) ∧ W.cell? ⟨g, o + i * 4 + 2, none⟩ = some (us i) ∧ W.cell? ⟨g, o + i * 4 + 3, none⟩ = some (.int .i64 (A.getD i fd0).auth)) ∧ QL (us i) (A.getD i fd0).subs W := by
  obtain ⟨a, cap, rfl, hc, hm, hn, hx⟩ := h
  by_cases h0 : 0 < A.length
  · obtain ⟨g, o, -, rfl, -⟩ := hx 0 h0
    have hy : ∀ i, i < A.length → ∃ u, g < w.heap.size ∧ w.cell? ⟨g, o + i * 4, none⟩ = some (.string (S (A.getD i fd0).tag)) ∧ w.cell? ⟨g, o + i * 4 + 1, none⟩ = some (.string (S (A.getD i fd0).ind)) ∧ w.cell? ⟨g, o + i * 4 + 2, none⟩ = some u ∧ w.cell? ⟨g, o + i * 4 + 3, none⟩ = some (.int .i64 (A.getD i fd0).auth) ∧ QL u (A.getD i fd0).subs w := by
      intro i hi
      obtain ⟨g', o', u, e, rest⟩ := hx i hi
      obtain ⟨rfl, rfl, -⟩ := Addr.mk.inj (Option.some.inj e)
      exact ⟨u, rest⟩
    refine ⟨_, cap, g, o, fun i => if h : i < A.length then (hy i h).choose else .nilIface, rfl, hc, hm, fun _ => rfl, fun W hb i hi => ?_⟩
    obtain ⟨hg, h1, h2, h3, h4, h5⟩ := (hy i hi).choose_spec
    simp only [dif_pos hi]
    exact ⟨⟨(hb.cell (p := ⟨g, o + i * 4, none⟩) hg).trans h1, (hb.cell (p := ⟨g, o + i * 4 + 1, none⟩) hg).trans h2, (hb.cell (p := ⟨g, o + i * 4 + 2, none⟩) hg).trans h3, (hb.cell (p := ⟨g, o + i * 4 + 3, none⟩) hg).trans h4⟩, h5.after hb⟩
  · exact ⟨a, cap, 0, 0, fun _ => .nilIface, rfl, hc, hm, fun h => absurd h h0, fun W hb i hi => absurd hi (by omega)⟩
set_option maxHeartbeats 8000000 in
theorem refHow16_any (l : List Kp) (v : Value) (t : List UInt8) (w : World) (hv : KpL v l w) :
    Calls Tryd.prog 11 #[v, .string (S t)] w fun e w' => e = .returned (.int .i64 (howK l t)) ∧ Below w.heap.size w w' := by
  obtain ⟨a, ca, g, o, rfl, hca, hm, hga, hxa⟩ := hv.opened
  obtain ⟨r, hr⟩ : ∃ r, howK l t = r := ⟨_, rfl⟩
  have HYes := Lib.hid (fun i (hi : i < l.length) (hj : ∀ j, j < i → (l.getD j kp0).1 ≠ t) (e : (l.getD i kp0).1 = t) => show r = (l.getD i kp0).2 from hr.symm.trans (howK_hit l t i hi hj e))
  have HNo := Lib.hid (fun (h : ∀ i, i < l.length → (l.getD i kp0).1 ≠ t) => show r = 1 from hr.symm.trans (howK_miss l t h))
  unfold maxLen at hm
  rw [hr]
  generalize hn : l.length = n at *
  have HXA := Lib.hid hxa
  have HS := Lib.hid (fun i => S_eq (l.getD i kp0).1 t)
  have HR := Lib.hid (Below.refl w.heap.size w)
  clear hn hv hxa hr
  go_enter Tryd.func11, Tryd.ntmps11
  go_wp2
  go_loopw [5] (fun s5 wr => ∃ i : Nat, s5 = .int .i64 (i : Int) ∧ i ≤ n ∧ RowKit.Hid (∀ a, a < i → (l.getD a kp0).1 ≠ t) ∧ RowKit.Hid (Below w.heap.size w wr)) (fun s5 _ => n - (intOf s5).toNat)
  case atStart => exact ⟨0, rfl, Nat.zero_le _, (fun a h2 => by omega), HR.out⟩
  case round =>
    obtain ⟨i, rfl, hi, HI, HB⟩ := hrel
    have i1 : (0 : Int) ≤ (i : Int) := by omega
    by_cases hin : i < n
    · have i2 : (i : Int) < (n : Int) := by omega
      obtain rfl := hga (by omega)
      obtain ⟨c1, c2⟩ := HXA.out wr HB.out i hin
      have b1 := HS.out i
      by_cases hxy : (l.getD i kp0).1 = t
      · have hr := HYes.out i hin HI.out hxy
        subst hr
        rw [decide_eq_true hxy] at b1
        have HF := Lib.hid HB.out
        clear hxy HYes HNo HI HB HS
        generalize S (l.getD i kp0).1 = y at *
        generalize S t = st at *
        go_wp2
        first | exact ⟨rfl, HF.out⟩ | (go_ret; exact ⟨rfl, HF.out⟩)
      · have HI2 : RowKit.Hid (∀ a, a < i + 1 → (l.getD a kp0).1 ≠ t) := by
          intro a h2
          rcases Nat.lt_or_ge a i with h | h
          · exact HI.out a h
          · rw [show a = i by omega]; exact hxy
        rw [decide_eq_false hxy] at b1
        clear hxy HYes HNo HI HS
        generalize S (l.getD i kp0).1 = y at *
        go_wp2
        go_roundw
        case rel => exact ⟨i + 1, by go_num, by omega, HI2.out, HB.out⟩
        case measure => simp [intOf]; omega
    · obtain rfl : i = n := by omega
      have hr := HNo.out HI.out
      subst hr
      have HF := Lib.hid HB.out
      clear HI HYes HNo HB
      go_wp2
      first | exact ⟨rfl, HF.out⟩ | (go_ret; exact ⟨rfl, HF.out⟩)
end

end Go.Proofs.YtceneblmllpdnaaDoor
