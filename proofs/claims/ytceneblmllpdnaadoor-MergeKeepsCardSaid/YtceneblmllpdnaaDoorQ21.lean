/- Merged: KE16, RegRel, KG16. -/
import Derived.Test.YtceneblmllpdnaaDoorQ13
import Derived.Test.YtceneblmllpdnaaDoorQ20
import Derived.Test.YtceneblmllpdnaaDoorQ10
namespace Go.Proofs.YtceneblmllpdnaaDoor

section
open Go.RowKit Go.PlainAid
def mixL (c : Fld → Fld) (k : Nat) (L : List Fld) : List Fld := (L.take k).map c ++ L.drop k
theorem mixL_len (c : Fld → Fld) (k : Nat) (L : List Fld) : (mixL c k L).length = L.length := by
  unfold mixL
  rw [List.length_append, List.length_map, ← List.length_append, List.take_append_drop]
theorem mixL_zero (c : Fld → Fld) (L : List Fld) : mixL c 0 L = L := by simp [mixL]
theorem mixL_all (c : Fld → Fld) (L : List Fld) : mixL c L.length L = L.map c := by simp [mixL]
theorem mixL_at (c : Fld → Fld) (k : Nat) (L : List Fld) (i : Nat) (hi : i < L.length) : (mixL c k L).getD i fd0 = if i < k then c (L.getD i fd0) else L.getD i fd0 := by
  unfold mixL
  rw [List.getD_eq_getElem?_getD, List.getD_eq_getElem?_getD]
  by_cases h : i < k
  · rw [if_pos h, List.getElem?_append_left (by rw [List.length_map, List.length_take]; omega), List.getElem?_map, List.getElem?_take_of_lt h, List.getElem?_eq_getElem hi]
    rfl
  · rw [if_neg h]
    by_cases hk : k ≤ L.length
    · have hl : ((L.take k).map c).length = k := by rw [List.length_map, List.length_take]; omega
      rw [List.getElem?_append_right (by omega), hl, List.getElem?_drop, show k + (i - k) = i by omega]
    · omega
theorem mixL_succ (c : Fld → Fld) (k : Nat) (L : List Fld) (hk : k < L.length) : mixL c (k + 1) L = (mixL c k L).set k (c (L.getD k fd0)) := by
  refine List.ext_getElem? fun i => ?_
  by_cases hi : i < L.length
  · have h1 := mixL_at c (k + 1) L i hi
    have h2 := mixL_at c k L i hi
    have e : ∀ (M : List Fld), M.length = L.length → M[i]? = some (M.getD i fd0) := fun M hM => by
      rw [List.getD_eq_getElem?_getD, List.getElem?_eq_getElem (by omega)]
      rfl
    rw [e _ (mixL_len _ _ _), h1]
    by_cases hik : i = k
    · subst hik
      rw [List.getElem?_set_self (by rw [mixL_len]; exact hi), if_pos (by omega)]
    · rw [List.getElem?_set_ne (fun h => hik h.symm), e _ (mixL_len _ _ _), h2]
      by_cases h : i < k
      · rw [if_pos (by omega), if_pos h]
      · rw [if_neg (by omega), if_neg h]
  · rw [List.getElem?_eq_none (by rw [mixL_len]; omega), List.getElem?_eq_none (by rw [List.length_set, mixL_len]; omega)]
theorem cellsF_set : ∀ (L : List Fld) (us : List Value) (i : Nat) (f : Fld) (u : Value), us.length = L.length → i < L.length →
    cellsF (L.set i f) (us.set i u) = ((((cellsF L us).set (i * 4) (.string (S f.tag))).set (i * 4 + 1) (.string (S f.ind))).set (i * 4 + 2) u).set (i * 4 + 3) (.int .i64 f.auth)
  | [], _, _, _, _, _, h => by cases h
  | a :: s, x :: xs, 0, f, u, _, _ => rfl
  | a :: s, x :: xs, i + 1, f, u, hl, h => by
    have ih := cellsF_set s xs i f u (by simpa using hl) (by simpa using h)
    have e : cellsF (a :: s) (x :: xs) = .string (S a.tag) :: .string (S a.ind) :: x :: .int .i64 a.auth :: cellsF s xs := rfl
    show cellsF (a :: s.set i f) (x :: xs.set i u) = _
    have e2 : cellsF (a :: s.set i f) (x :: xs.set i u) = .string (S a.tag) :: .string (S a.ind) :: x :: .int .i64 a.auth :: cellsF (s.set i f) (xs.set i u) := rfl
    rw [e2, ih, e, show (i + 1) * 4 = i * 4 + 1 + 1 + 1 + 1 by omega]
    rfl

theorem typ_ne {w : World} {b b' : Nat} {cs cs' : Array Value} {t t' : TypeId} {fr fr' : Nat × Nat} (h : w.heap[b]? = some (.cells cs t fr)) (h' : w.heap[b']? = some (.cells cs' t' fr')) (ht : t ≠ t') : b ≠ b' := by
  rintro rfl
  rw [h] at h'
  injection Option.some.inj h' with h1 h2
  exact ht h2
theorem SB.at {B : Nat} {v : Value} {L : List Sub} {w : World} (h : SB B v L w) : v = .slice none 0 0 ∨ ∃ g cs, v.ownBlock = some g ∧ B ≤ g ∧ w.heap[g]? = some (.cells cs 65 (0, 0)) := by
  rcases h.2 with ⟨rfl, _⟩ | ⟨g, cap, cur, rfl, hB', hg, rest⟩
  · exact .inl rfl
  · exact .inr ⟨g, _, rfl, hB', hg⟩
/-- The blocks of fields and of subfields from B on are as they were. -/
def KpF (B : Nat) (w W : World) : Prop := w.heap.size ≤ W.heap.size ∧ ∀ b cs t fr, B ≤ b → w.heap[b]? = some (.cells cs t fr) → t = 45 ∨ t = 65 → W.heap[b]? = w.heap[b]?
theorem KpF.of {B : Nat} {w W : World} (hs : w.heap.size ≤ W.heap.size) (h : ∀ i, B ≤ i → i < w.heap.size → W.heap[i]? = w.heap[i]?) : KpF B w W := ⟨hs, fun b _ _ _ hB hg _ => h b hB (Array.getElem?_eq_some_iff.1 hg).1⟩
theorem KpF.below {B : Nat} {w W : World} (h : Below w.heap.size w W) : KpF B w W := ⟨h.size, fun b _ _ _ _ hg _ => h.block b (Array.getElem?_eq_some_iff.1 hg).1⟩
/-- All but one block are as they were, and that one is no block of fields or subfields. -/
theorem KpF.but {B : Nat} {w W : World} {g : Nat} (hs : w.heap.size ≤ W.heap.size) (h : ∀ i, i ≠ g → i < w.heap.size → W.heap[i]? = w.heap[i]?) {cs : Array Value} {t : TypeId} {fr : Nat × Nat} (hg : w.heap[g]? = some (.cells cs t fr)) (h1 : t ≠ 45) (h2 : t ≠ 65) : KpF B w W :=
  ⟨hs, fun b cs' t' fr' _ hb ht => h b (fun e => by
    subst e
    rw [hg] at hb
    injection Option.some.inj hb with e1 e2
    subst e2
    rcases ht with e | e
    · exact h1 e
    · exact h2 e) (Array.getElem?_eq_some_iff.1 hb).1⟩
theorem own_kept {w W : World} {B e s n : Nat} {v : Value} {xs : List Value} (h : w.ownsRow B e s v n xs) (hk : ∀ b cs, B ≤ b → w.heap[b]? = some (.cells cs e (0, 0)) → W.heap[b]? = w.heap[b]?) : W.ownsRow B e s v n xs := by
  refine ⟨h.1, ?_⟩
  rcases h.2 with hn | ⟨g, cap, cur, hv, hB', hg, rest⟩
  · exact .inl hn
  · exact .inr ⟨g, cap, cur, hv, hB', (hk g _ hB' hg).trans hg, rest⟩
/-- A row of fields of the call's own; the subfields lie in rows of its own, too. -/
def FT (B : Nat) (v : Value) (L : List Fld) (w : World) : Prop :=
  ∃ us : List Value, us.length = L.length ∧ w.ownsRow B 45 4 v L.length (cellsF L us) ∧ ∀ i, i < L.length → SB B (us.getD i .nilIface) (L.getD i fd0).subs w
theorem FT.kept {B : Nat} {v : Value} {L : List Fld} {w W : World} (h : FT B v L w) (hk : KpF B w W) : FT B v L W := by
  obtain ⟨us, h1, h2, h3⟩ := h
  exact ⟨us, h1, own_kept h2 (fun b cs hB hg => hk.2 b _ _ _ hB hg (.inl rfl)), fun i hi => own_kept (h3 i hi) (fun b cs hB hg => hk.2 b _ _ _ hB hg (.inr rfl))⟩
theorem FT.after {B : Nat} {v : Value} {L : List Fld} {w W : World} (h : FT B v L w) (hb : Below w.heap.size w W) : FT B v L W := h.kept (KpF.below hb)
theorem FT.nil (B : Nat) (w : World) : FT B (.slice none 0 0) [] w := ⟨[], rfl, World.ownsRow_nil _ _ _ _, fun i hi => by cases hi⟩
theorem FT.form {B : Nat} {v : Value} {L : List Fld} {w : World} (h : FT B v L w) : ∃ ao cp, v = .slice ao L.length cp := by
  obtain ⟨us, _, h2, _⟩ := h
  exact own_form h2
theorem FT.fl {B : Nat} {v : Value} {L : List Fld} {w : World} (h : FT B v L w) : FL v L w := by
  obtain ⟨us, hl, hown, hq⟩ := h
  rcases hown.2 with ⟨rfl, h0⟩ | ⟨g, cap, cur, rfl, hb, hg, hc, hm, hs, ht⟩
  · have : L = [] := List.eq_nil_of_length_eq_zero h0
    subst this
    exact ⟨none, 0, rfl, Nat.le_refl _, Nat.zero_le _, fun _ => rfl, fun i hi => by cases hi⟩
  · have hadd : ∀ j, (⟨g, 0, none⟩ : Addr).add j = ⟨g, j, none⟩ := fun j => by unfold Addr.add; split <;> simp_all
    refine ⟨_, cap, rfl, hc, hm, (fun h => by cases h), fun i hi => ?_⟩
    have hcc := cellsF_at L us i hl hi
    have t0 := hown.cells (g := g) rfl _ _ hcc.1
    have t1 := hown.cells (g := g) rfl _ _ hcc.2.1
    have t2 := hown.cells (g := g) rfl _ _ hcc.2.2.1
    have t3 := hown.cells (g := g) rfl _ _ hcc.2.2.2
    rw [hadd] at t0 t1 t2 t3
    refine ⟨g, 0, us.getD i .nilIface, rfl, (Array.getElem?_eq_some_iff.1 hg).1, ?_⟩
    rw [Nat.zero_add]
    exact ⟨t0, t1, t2, t3, (hq i hi).ql⟩
theorem FT.new {B : Nat} {v : Value} {L : List Fld} {w : World} (h : FT B v L w) : New B (FL v L) w := fun _ hs hb => (h.kept (KpF.of hs hb)).fl
theorem FT.base {B B' : Nat} {v : Value} {L : List Fld} {w : World} (h : FT B' v L w) (hB : B ≤ B') : FT B v L w := by
  obtain ⟨us, h1, h2, h3⟩ := h
  refine ⟨us, h1, ⟨h2.1, ?_⟩, fun i hi => (h3 i hi).base hB⟩
  rcases h2.2 with hn | ⟨g, cap, cur, hv, hB', rest⟩
  · exact .inl hn
  · exact .inr ⟨g, cap, cur, hv, Nat.le_trans hB hB', rest⟩
theorem field_ne_sub : (45 : TypeId) ≠ 65 := by decide
/-- What the walk needs for an append of one field, and the longer row. -/
theorem FT.open {B : Nat} {v : Value} {L : List Fld} {w : World} (h : FT B v L w) :
    ∃ xs : List Value, w.ownsRow B 45 4 v L.length xs ∧ ∀ (f : Fld) (u v' : Value) (w' : World), SB B u f.subs w → w.grownBy w' v.ownBlock →
      w'.ownsRow B 45 4 v' (L.length + 1) (xs ++ encF f u) → FT B v' (L ++ [f]) w' := by
  obtain ⟨us, hl, hown, hq⟩ := h
  refine ⟨_, hown, fun f u v' w' hu hg hown' => ⟨us ++ [u], by rw [List.length_append, List.length_append, hl]; rfl, ?_, fun i hi => ?_⟩⟩
  · rw [cellsF_snoc L us f u hl, List.length_append]
    exact hown'
  · have hmv : ∀ {x : Value} {l : List Sub}, SB B x l w → SB B x l w' := fun hx => own_kept hx (fun b cs hB hb => hg.block b (Array.getElem?_eq_some_iff.1 hb).1 (fun e => by
      rcases hown.2 with ⟨rfl, _⟩ | ⟨g, cap, cur, rfl, _, hgg, _⟩
      · cases e
      · have e2 : b = g := Option.some.inj e
        exact typ_ne hgg hb field_ne_sub e2.symm))
    rw [getD_app, getD_appF, hl]
    by_cases h1 : i < L.length
    · rw [if_pos h1, if_pos h1]; exact hmv (hq i h1)
    · have : i = L.length := by rw [List.length_append] at hi; simp at hi; omega
      subst this
      rw [if_neg h1, if_neg h1, Nat.sub_self]
      exact hmv hu

/-- The row in which the first k fields are changed. -/
def CH (V : World) (B : Nat) (v : Value) (c : Fld → Fld) (L : List Fld) (k : Nat) (w : World) : Prop :=
  ∃ us : List Value, us.length = L.length ∧ w.ownsRow B 45 4 v L.length (cellsF (mixL c k L) us) ∧
    (∀ i, i < k → i < L.length → SB B (us.getD i .nilIface) (c (L.getD i fd0)).subs w) ∧ (∀ i, k ≤ i → i < L.length → QL (us.getD i .nilIface) (L.getD i fd0).subs V)
theorem CH.start {V : World} {B : Nat} {v : Value} {c : Fld → Fld} {L : List Fld} {w : World} (h : FR V B v L w) : CH V B v c L 0 w := by
  obtain ⟨us, h1, h2, h3⟩ := h
  exact ⟨us, h1, by rw [mixL_zero]; exact h2, fun i hi => by omega, fun i _ hi => h3 i hi⟩
theorem CH.on {V : World} {B : Nat} {v : Value} {c : Fld → Fld} {L : List Fld} {k : Nat} {w w' : World} (h : CH V B v c L k w) (_hs : w.heap.size ≤ w'.heap.size) (hb : ∀ i, B ≤ i → i < w.heap.size → w'.heap[i]? = w.heap[i]?) : CH V B v c L k w' := by
  obtain ⟨us, h1, h2, h3, h4⟩ := h
  exact ⟨us, h1, own_same h2 hb, fun i hi hl => (h3 i hi hl).kept (fun j hj hk => hb j hj hk), h4⟩
theorem CH.after {V : World} {B : Nat} {v : Value} {c : Fld → Fld} {L : List Fld} {k : Nat} {w w' : World} (h : CH V B v c L k w) (hb : Below w.heap.size w w') : CH V B v c L k w' :=
  h.on hb.size fun i _ hi => hb.block i hi
theorem CH.form {V : World} {B : Nat} {v : Value} {c : Fld → Fld} {L : List Fld} {k : Nat} {w : World} (h : CH V B v c L k w) : ∃ ao cp, v = .slice ao L.length cp := by
  obtain ⟨us, _, h2, _⟩ := h
  exact own_form h2
theorem CH.fn {V : World} {B : Nat} {v : Value} {c : Fld → Fld} {L : List Fld} {w : World} (h : CH V B v c L L.length w) : FT B v (L.map c) w := by
  obtain ⟨us, h1, h2, h3, _⟩ := h
  rw [mixL_all] at h2
  refine ⟨us, by rw [List.length_map]; exact h1, by rw [List.length_map]; exact h2, fun i hi => ?_⟩
  rw [List.length_map] at hi
  have := h3 i hi hi
  rw [List.getD_eq_getElem?_getD, List.getD_eq_getElem?_getD, List.getElem?_eq_getElem hi] at this
  rw [List.getD_eq_getElem?_getD, List.getD_eq_getElem?_getD, List.getElem?_map, List.getElem?_eq_getElem hi]
  exact this
/-- What lies at the next field's place. -/
theorem CH.open {V : World} {B : Nat} {v : Value} {c : Fld → Fld} {L : List Fld} {k : Nat} {w : World} (h : CH V B v c L k w) (hk : k < L.length) :
    ∃ g cap u, v = .slice (some ⟨g, 0, none⟩) L.length cap ∧ B ≤ g ∧ g < w.heap.size ∧ L.length ≤ cap ∧ cap ≤ maxLen ∧
    (w.cell? ⟨g, k * 4, none⟩ = some (.string (S (L.getD k fd0).tag)) ∧ w.cell? ⟨g, k * 4 + 1, none⟩ = some (.string (S (L.getD k fd0).ind)) ∧ w.cell? ⟨g, k * 4 + 2, none⟩ = some u ∧ w.cell? ⟨g, k * 4 + 3, none⟩ = some (.int .i64 (L.getD k fd0).auth)) ∧
    (∀ p, w.frozen? ⟨g, p, none⟩ = false) ∧ QL u (L.getD k fd0).subs V := by
  obtain ⟨us, h1, h2, h3, h4⟩ := h
  rcases h2.2 with ⟨_, h0⟩ | ⟨g, cap, cur, rfl, hb, hg, hc, hm, hs, ht⟩
  · omega
  · have hadd : ∀ j, (⟨g, 0, none⟩ : Addr).add j = ⟨g, j, none⟩ := fun j => by unfold Addr.add; split <;> simp_all
    have hcc := cellsF_at (mixL c k L) us k (by rw [mixL_len]; exact h1) (by rw [mixL_len]; exact hk)
    rw [mixL_at c k L k hk, if_neg (Nat.lt_irrefl _)] at hcc
    have t0 := h2.cells (g := g) rfl _ _ hcc.1
    have t1 := h2.cells (g := g) rfl _ _ hcc.2.1
    have t2 := h2.cells (g := g) rfl _ _ hcc.2.2.1
    have t3 := h2.cells (g := g) rfl _ _ hcc.2.2.2
    rw [hadd] at t0 t1 t2 t3
    exact ⟨g, cap, us.getD k .nilIface, rfl, hb, (Array.getElem?_eq_some_iff.1 hg).1, hc, hm, ⟨t0, t1, t2, t3⟩, fun p => Lib.frozen_of_heap hg p, h4 k (Nat.le_refl _) hk⟩
def setF4at (w : World) (g p : Nat) (x0 x1 x2 x3 : Value) : World := (((w.setCell ⟨g, p, none⟩ x0).setCell ⟨g, p + 1, none⟩ x1).setCell ⟨g, p + 2, none⟩ x2).setCell ⟨g, p + 3, none⟩ x3
theorem row_set14 {B e s n : Nat} {w : World} {xs : List Value} {g cap : Nat} (h : w.ownsRow B e s (.slice (some ⟨g, 0, none⟩) n cap) n xs) (p : Nat) (u : Value) :
    (w.setCell ⟨g, p, none⟩ u).ownsRow B e s (.slice (some ⟨g, 0, none⟩) n cap) n (xs.set p u) := own_set h u
theorem setF4at_other {w : World} {g p : Nat} (x0 x1 x2 x3 : Value) (i : Nat) (hi : i ≠ g) : (setF4at w g p x0 x1 x2 x3).heap[i]? = w.heap[i]? := by
  unfold setF4at
  rw [heap_setn _ _ _ _ hi, heap_setn _ _ _ _ hi, heap_setn _ _ _ _ hi, heap_setn _ _ _ _ hi]
theorem setF4at_size (w : World) (g p : Nat) (x0 x1 x2 x3 : Value) : (setF4at w g p x0 x1 x2 x3).heap.size = w.heap.size := by
  unfold setF4at
  simp [World.setCell]
theorem setF4at_below {w0 w : World} {g B : Nat} (h : Below B w0 w) (hb : B ≤ g) (p : Nat) (x0 x1 x2 x3 : Value) : Below B w0 (setF4at w g p x0 x1 x2 x3) :=
  (((h.setCell (p := ⟨g, p, none⟩) hb x0).setCell (p := ⟨g, p + 1, none⟩) hb x1).setCell (p := ⟨g, p + 2, none⟩) hb x2).setCell (p := ⟨g, p + 3, none⟩) hb x3
/-- The next field is stored. -/
theorem CH.put {V : World} {B : Nat} {c : Fld → Fld} {L : List Fld} {k n : Nat} {w : World} {g cap : Nat} (h : CH V B (.slice (some ⟨g, 0, none⟩) n cap) c L k w) (hn : L.length = n) (hk : k < n) (u : Value)
    (hu : SB B u (c (L.getD k fd0)).subs w) :
    CH V B (.slice (some ⟨g, 0, none⟩) n cap) c L (k + 1) (setF4at w g (k * 4) (.string (S (c (L.getD k fd0)).tag)) (.string (S (c (L.getD k fd0)).ind)) u (.int .i64 (c (L.getD k fd0)).auth)) := by
  subst hn
  obtain ⟨us, h1, h2, h3, h4⟩ := h
  have hmv : ∀ {x : Value} {l : List Sub}, SB B x l w → SB B x l (setF4at w g (k * 4) (.string (S (c (L.getD k fd0)).tag)) (.string (S (c (L.getD k fd0)).ind)) u (.int .i64 (c (L.getD k fd0)).auth)) :=
    fun hx => own_kept hx (fun b cs hB hb => setF4at_other _ _ _ _ b (fun e => by
      rcases h2.2 with ⟨hv, _⟩ | ⟨g', cap', cur, hv, _, hgg, _⟩
      · cases hv
      · have e2 : g = g' := by injection hv with e3; injection Option.some.inj e3
        exact typ_ne hgg hb field_ne_sub (by omega)))
  have hkl : k < us.length := by omega
  refine ⟨us.set k u, by rw [List.length_set]; exact h1, ?_, fun i hi hl => ?_, fun i hi hl => ?_⟩
  · rw [mixL_succ c k L hk, cellsF_set _ _ _ _ _ (by rw [mixL_len]; exact h1) (by rw [mixL_len]; exact hk)]
    exact row_set14 (row_set14 (row_set14 (row_set14 h2 _ _) _ _) _ _) _ _
  · rw [List.getD_eq_getElem?_getD]
    by_cases hik : i = k
    · subst hik
      rw [List.getElem?_set_self hkl]
      exact hmv hu
    · rw [List.getElem?_set_ne (fun e => hik e.symm), ← List.getD_eq_getElem?_getD]
      exact hmv (h3 i (by omega) hl)
  · rw [List.getD_eq_getElem?_getD, List.getElem?_set_ne (by omega), ← List.getD_eq_getElem?_getD]
    exact h4 i (by omega) hl
theorem SB.new {B : Nat} {v : Value} {L : List Sub} {w : World} (h : SB B v L w) : New B (QL v L) w := fun _ _ hb => (h.kept hb).ql
end

section
open Go.RowKit
/-- What an operation yields, as long as the world only turns by R. -/
structure SPR (R : World → World → Prop) where
  p : Value → World → Prop
  st : ∀ v w w', p v w → R w w' → p v w'
def SPR.any (R : World → World → Prop) : SPR R := ⟨fun _ _ => True, fun _ _ _ _ _ => trivial⟩
def SPR.eq (R : World → World → Prop) (x : Value) : SPR R := ⟨fun v _ => v = x, fun _ _ _ h _ => h⟩

section
variable (R : World → World → Prop) (P : Program) (Q : Exit → Act → World → Prop) (ops : Array Oper) (A : (Nat → Value) → Act) (w0 : World) (V : List (SPR R))
def ObR (k : Nat) (o : Oper) : Prop :=
  ∀ (vs : Nat → Value) (w : World), R w0 w → (∀ j, depB o j = true → (V.getD j (SPR.any R)).p (vs j) w) → ∀ K : Act → World → Prop,
    RowKit.Hid (∀ v w', (V.getD k (SPR.any R)).p v w' → R w w' → K ((A vs).put o.dst v) w') →
    if Region.wanted o (yielded ops (A vs).tmps) = true then Oper.wp P o (A vs) w K Q else K ((A vs).put o.dst undef) w
def ObsR : List Oper → Nat → Prop
  | [], _ => True
  | o :: r, k => ObR R P Q ops A w0 V k o ∧ ObsR r (k + 1)
theorem ObsR.at : ∀ (r : List Oper) (k m : Nat) (o : Oper), ObsR R P Q ops A w0 V r k → r[m]? = some o → ObR R P Q ops A w0 V (k + m) o
  | [], _, _, _, _, h => by cases h
  | o' :: r, k, 0, o, hO, h => by
    obtain rfl : o' = o := by simpa using h
    exact hO.1
  | o' :: r, k, m + 1, o, hO, h => by
    have := ObsR.at r (k + 1) m o hO.2 (by simpa using h)
    rwa [show k + 1 + m = k + (m + 1) by omega] at this
theorem ObsR.nil {k : Nat} : ObsR R P Q ops A w0 V [] k := trivial
theorem ObsR.cons {o : Oper} {r : List Oper} {k : Nat} (h : ObR R P Q ops A w0 V k o) (t : ObsR R P Q ops A w0 V r (k + 1)) : ObsR R P Q ops A w0 V (o :: r) k := ⟨h, t⟩
end
theorem ready_all {ops : Array Oper} (hb : backB ops.toList 0 = true) {l : Array Bool} (hl : l.size = ops.size) (hr : Region.ready .any ops l = []) : ∀ k, k < ops.size → l.getD k false = true := by
  intro k
  induction k using Nat.strongRecOn with
  | ind k ih =>
    intro hk'
    cases hlk : l.getD k false with
    | true => rfl
    | false =>
      exfalso
      have : k ∈ Region.ready .any ops l := by
        rw [mem_ready]
        refine ⟨?_, ops[k], Array.getElem?_eq_getElem hk', fun e he hx => ?_⟩
        · have : k < l.size := by omega
          simpa [this] using hlk
        · have := back_at ops.toList 0 k ops[k] hb (by simp [hk']) e he hx
          exact ih e.on (by omega) (by omega)
      rw [hr] at this
      cases this

theorem wp_region_rel {P : Program} {id : Nat} {ops : Array Oper} {Q : Exit → Act → World → Prop} {a0 : Act} {w0 : World} (R : World → World → Prop) (htrans : ∀ u v w, R u v → R v w → R u w) (hdrew : R w0 w0.drew)
    (V : List (SPR R)) (A : (Nat → Value) → Act)
    (hm : P.follows .mixedOrders = true) (hd : distinctB ops.toList = true) (hb : backB ops.toList 0 = true) (hA : ∀ vs, puts ops.toList vs 0 a0 = A vs)
    (hob : ObsR R P Q ops A w0 V ops.toList 0)
    (hfin : ∀ vs w, R w0 w → (∀ k, k < ops.size → (V.getD k (SPR.any R)).p (vs k) w) → Q .normal (A vs) w) :
    (Code.region id ops true).wp P Q a0 w0 := by
  refine wp_region_any hm ?_
  refine wpAny_inv (I := fun l a w => l.size = ops.size ∧ ∃ vs, a = A vs ∧ R w0 w ∧ ∀ k, l.getD k false = true → (V.getD k (SPR.any R)).p (vs k) w) (fun l a w h => h.1) ?_ ?_ _ _ _ _ ?_ ?_
  · rintro l a w i ⟨hl, vs, rfl, hw, hk⟩ hi
    obtain ⟨h0, o, ho, hall⟩ := mem_ready.1 hi
    have hO := ObsR.at R P Q ops A w0 V ops.toList 0 i o hob (by simpa using ho)
    rw [Nat.zero_add] at hO
    have hput : ∀ v, (A vs).put o.dst v = A (upd vs i v) := fun v => by
      rw [← hA, ← hA, puts_upd ops.toList vs 0 i a0 o v hd (by simpa using ho), Nat.zero_add]
    have hst := hO vs w hw (fun j hj => by
      unfold depB at hj
      rw [Array.any_eq_true'] at hj
      obtain ⟨e, he, hx⟩ := hj
      rw [Bool.and_eq_true, decide_eq_true_eq] at hx
      obtain ⟨hx, rfl⟩ := hx
      exact hk _ (hall e he hx)) (fun a' w' => (l.setIfInBounds i true).size = ops.size ∧ ∃ vs, a' = A vs ∧ R w0 w' ∧ ∀ k, (l.setIfInBounds i true).getD k false = true → (V.getD k (SPR.any R)).p (vs k) w')
      (by
        intro v w' hv hbw
        refine ⟨by simpa using hl, upd vs i v, hput v, htrans _ _ _ hw hbw, fun k hk' => ?_⟩
        by_cases hki : k = i
        · subst hki
          have e : upd vs k v k = v := by simp [upd]
          rw [e]
          exact hv
        · have e : upd vs i v k = vs k := by unfold upd; rw [if_neg hki]
          rw [e]
          refine (V.getD k (SPR.any R)).st _ _ _ (hk k ?_) hbw
          rwa [getD_set_ne false (Ne.symm hki)] at hk')
    unfold wpOp
    simp only [ho]
    split
    · rename_i hw'
      rw [if_pos hw'] at hst
      exact .inl hst
    · rename_i hw'
      rw [if_neg hw'] at hst
      exact hst
  · rintro l a w ⟨hl, vs, rfl, hw, hk⟩ hr
    exact hfin vs w hw (fun k hk' => hk k (ready_all hb hl hr k hk'))
  · have : ∀ n : Nat, (List.replicate n false).count false = n := fun n => by simp
    simp
  · obtain ⟨vs, hvs⟩ := puts_self ops.toList 0 a0
    refine ⟨by simp, vs, by rw [← hA, hvs], hdrew, fun k hk => ?_⟩
    by_cases h : k < ops.size
    · simp [h] at hk
    · simp [h] at hk

/-- Does operation k wait for j, by way of others too? -/
def reachB (ops : Array Oper) : Nat → Nat → Nat → Bool
  | 0, _, _ => false
  | f + 1, k, j => match ops[k]? with
    | none => false
    | some o => depB o j || (List.range k).any fun m => depB o m && reachB ops f m j
/-- Does the last operation wait for all others? -/
def lastB (ops : Array Oper) (f n : Nat) : Bool := decide (n + 1 = ops.size) && (List.range n).all fun j => reachB ops f n j
theorem dep_done {o : Oper} {l : Array Bool} (h : ∀ e, e ∈ o.after → Region.binds .any e = true → l.getD e.on false = true) {j : Nat} (hj : depB o j = true) : l.getD j false = true := by
  unfold depB at hj
  rw [Array.any_eq_true'] at hj
  obtain ⟨e, he, hx⟩ := hj
  rw [Bool.and_eq_true, decide_eq_true_eq] at hx
  obtain ⟨hx, rfl⟩ := hx
  exact h e he hx
theorem reach_done {ops : Array Oper} {l : Array Bool} (hc : ∀ k o, ops[k]? = some o → l.getD k false = true → ∀ e, e ∈ o.after → Region.binds .any e = true → l.getD e.on false = true) :
    ∀ (f k j : Nat) (o : Oper), ops[k]? = some o → (∀ e, e ∈ o.after → Region.binds .any e = true → l.getD e.on false = true) → reachB ops f k j = true → l.getD j false = true
  | 0, _, _, _, _, _, h => by cases h
  | f + 1, k, j, o, ho, hd, h => by
    rw [reachB, ho] at h
    simp only [Bool.or_eq_true, List.any_eq_true, Bool.and_eq_true] at h
    rcases h with h | ⟨m, _, h1, h2⟩
    · exact dep_done hd h
    · have hm := dep_done hd h1
      cases hom : ops[m]? with
      | none => 
        cases f with
        | zero => cases h2
        | succ f => rw [reachB, hom] at h2; cases h2
      | some o2 => exact reach_done hc f m j o2 hom (hc m o2 hom hm) h2

theorem wp_region_last {P : Program} {id : Nat} {ops : Array Oper} {Q : Exit → Act → World → Prop} {a0 : Act} {w0 : World} (R : World → World → Prop) (htrans : ∀ u v w, R u v → R v w → R u w) (hdrew : R w0 w0.drew)
    (V : List (SPR R)) (A : (Nat → Value) → Act) (n f : Nat) (ol : Oper)
    (hm : P.follows .mixedOrders = true) (hd : distinctB ops.toList = true) (hb : backB ops.toList 0 = true) (hA : ∀ vs, puts ops.toList vs 0 a0 = A vs)
    (hlast : lastB ops f n = true) (hol : ops[n]? = some ol)
    (hob : ObsR R P Q ops A w0 V (ops.toList.take n) 0)
    (hfin : ∀ vs w, R w0 w → (∀ k, k < n → (V.getD k (SPR.any R)).p (vs k) w) →
      if Region.wanted ol (yielded ops (A vs).tmps) = true then Oper.wp P ol (A vs) w (fun a w' => Q .normal a w') Q else Q .normal ((A vs).put ol.dst undef) w) :
    (Code.region id ops true).wp P Q a0 w0 := by
  unfold lastB at hlast
  rw [Bool.and_eq_true, decide_eq_true_eq] at hlast
  obtain ⟨hn, hreach⟩ := hlast
  refine wp_region_any hm ?_
  refine wpAny_inv (I := fun l a w => l.size = ops.size ∧ ((l.getD n false = true ∧ (∀ k, k < ops.size → l.getD k false = true) ∧ Q .normal a w) ∨ (l.getD n false = false ∧ (∀ k o, ops[k]? = some o → l.getD k false = true → ∀ e, e ∈ o.after → Region.binds .any e = true → l.getD e.on false = true) ∧
    ∃ vs, a = A vs ∧ R w0 w ∧ ∀ k, l.getD k false = true → (V.getD k (SPR.any R)).p (vs k) w))) (fun l a w h => h.1) ?_ ?_ _ _ _ _ ?_ ?_
  · rintro l a w i ⟨hl, hI⟩ hi
    obtain ⟨h0, o, ho, hall⟩ := mem_ready.1 hi
    have hlt : i < ops.size := (Array.getElem?_eq_some_iff.1 ho).1
    have hif : l.getD i false = false := by
      have : i < l.size := by omega
      simpa [this] using h0
    rcases hI with ⟨_, hall2, _⟩ | ⟨hnf, hc, vs, rfl, hw, hk⟩
    · rw [hall2 i hlt] at hif
      cases hif
    by_cases hin : i = n
    · subst hin
      obtain rfl : o = ol := by rw [hol] at ho; exact (Option.some.inj ho).symm
      have hdone : ∀ j, j < i → l.getD j false = true := fun j hj => by
        have hr := List.all_eq_true.1 hreach j (List.mem_range.2 hj)
        exact reach_done hc f i j o ho (fun e he hx => hall e he hx) hr
      have hst := hfin vs w hw (fun k hk' => hk k (hdone k hk'))
      have hfin2 : ∀ a' w', Q .normal a' w' → (l.setIfInBounds i true).size = ops.size ∧ (((l.setIfInBounds i true).getD i false = true ∧ (∀ k, k < ops.size → (l.setIfInBounds i true).getD k false = true) ∧ Q .normal a' w') ∨ ((l.setIfInBounds i true).getD i false = false ∧ (∀ k o, ops[k]? = some o → (l.setIfInBounds i true).getD k false = true → ∀ e, e ∈ o.after → Region.binds .any e = true → (l.setIfInBounds i true).getD e.on false = true) ∧
          ∃ vs, a' = A vs ∧ R w0 w' ∧ ∀ k, (l.setIfInBounds i true).getD k false = true → (V.getD k (SPR.any R)).p (vs k) w')) := by
        intro a' w' hq
        have hself : (l.setIfInBounds i true).getD i false = true := by
          have : i < l.size := by omega
          simp [this]
        refine ⟨by simpa using hl, .inl ⟨hself, fun k hk' => ?_, hq⟩⟩
        by_cases hki : k = i
        · subst hki; exact hself
        · rw [getD_set_ne false (Ne.symm hki)]
          exact hdone k (by omega)
      unfold wpOp
      simp only [ho]
      split
      · rename_i hw'
        rw [if_pos hw'] at hst
        exact .inl (Oper.wp_mono (fun a' w' h => hfin2 a' w' h) hst)
      · rename_i hw'
        rw [if_neg hw'] at hst
        exact hfin2 _ _ hst
    · have hi2 : i < n := by omega
      have hO := ObsR.at R P Q ops A w0 V (ops.toList.take n) 0 i o hob (by rw [List.getElem?_take_of_lt hi2]; simpa using ho)
      rw [Nat.zero_add] at hO
      have hput : ∀ v, (A vs).put o.dst v = A (upd vs i v) := fun v => by
        rw [← hA, ← hA, puts_upd ops.toList vs 0 i a0 o v hd (by simpa using ho), Nat.zero_add]
      have hst := hO vs w hw (fun j hj => hk _ (dep_done (fun e he hx => hall e he hx) hj)) (fun a' w' => (l.setIfInBounds i true).size = ops.size ∧ (((l.setIfInBounds i true).getD n false = true ∧ (∀ k, k < ops.size → (l.setIfInBounds i true).getD k false = true) ∧ Q .normal a' w') ∨ ((l.setIfInBounds i true).getD n false = false ∧ (∀ k o, ops[k]? = some o → (l.setIfInBounds i true).getD k false = true → ∀ e, e ∈ o.after → Region.binds .any e = true → (l.setIfInBounds i true).getD e.on false = true) ∧
          ∃ vs, a' = A vs ∧ R w0 w' ∧ ∀ k, (l.setIfInBounds i true).getD k false = true → (V.getD k (SPR.any R)).p (vs k) w')))
        (by
          intro v w' hv hbw
          have hmono : ∀ j, l.getD j false = true → (l.setIfInBounds i true).getD j false = true := fun j hj => by
            by_cases hji : j = i
            · subst hji; rw [hj] at hif; cases hif
            · rw [getD_set_ne false (Ne.symm hji)]; exact hj
          refine ⟨by simpa using hl, .inr ⟨by rw [getD_set_ne false hin]; exact hnf, fun k o' ho' hk' e he hx => ?_, upd vs i v, hput v, htrans _ _ _ hw hbw, fun k hk' => ?_⟩⟩
          · by_cases hki : k = i
            · subst hki
              obtain rfl : o = o' := Option.some.inj (ho.symm.trans ho')
              exact hmono _ (hall e he hx)
            · rw [getD_set_ne false (Ne.symm hki)] at hk'
              exact hmono _ (hc k o' ho' hk' e he hx)
          · by_cases hki : k = i
            · subst hki
              have e : upd vs k v k = v := by simp [upd]
              rw [e]
              exact hv
            · have e : upd vs i v k = vs k := by unfold upd; rw [if_neg hki]
              rw [e]
              refine (V.getD k (SPR.any R)).st _ _ _ (hk k ?_) hbw
              rwa [getD_set_ne false (Ne.symm hki)] at hk')
      unfold wpOp
      simp only [ho]
      split
      · rename_i hw'
        rw [if_pos hw'] at hst
        exact .inl hst
      · rename_i hw'
        rw [if_neg hw'] at hst
        exact hst
  · rintro l a w ⟨hl, hI⟩ hr
    rcases hI with ⟨_, _, hq⟩ | ⟨hnf, _⟩
    · exact hq
    · rw [ready_all hb hl hr n (by omega)] at hnf
      cases hnf
  · simp
  · obtain ⟨vs, hvs⟩ := puts_self ops.toList 0 a0
    have hf : ∀ k, (Array.replicate ops.size false).getD k false = false := fun k => by
      by_cases h : k < ops.size
      · simp [h]
      · simp [h]
    refine ⟨by simp, .inr ⟨hf n, fun k _ _ hk => ?_, vs, by rw [← hA, hvs], hdrew, fun k hk => ?_⟩⟩
    · rw [hf k] at hk; cases hk
    · rw [hf k] at hk; cases hk
end

section
open Go.RowKit Go.PlainAid
theorem rcells14 {w : World} {b : Nat} {c0 c1 c2 c3 c4 : Value} (h : w.heap[b]? = some (.cells #[c0, c1, c2, c3, c4] 31 (0, 0))) :
    (w.cell? ⟨b, 0, none⟩ = some c0 ∧ w.cell? ⟨b, 1, none⟩ = some c1 ∧ w.cell? ⟨b, 2, none⟩ = some c2 ∧ w.cell? ⟨b, 3, none⟩ = some c3 ∧ w.cell? ⟨b, 4, none⟩ = some c4) ∧
    (w.frozen? ⟨b, 0, none⟩ = false ∧ w.frozen? ⟨b, 1, none⟩ = false ∧ w.frozen? ⟨b, 2, none⟩ = false ∧ w.frozen? ⟨b, 3, none⟩ = false ∧ w.frozen? ⟨b, 4, none⟩ = false) := rec_cells h
def setR14 (w : World) (b : Nat) (x0 x1 x2 x3 x4 : Value) : World := ((((w.setCell ⟨b, 0, none⟩ x0).setCell ⟨b, 1, none⟩ x1).setCell ⟨b, 2, none⟩ x2).setCell ⟨b, 3, none⟩ x3).setCell ⟨b, 4, none⟩ x4
theorem setR14_other {w : World} {b : Nat} (x0 x1 x2 x3 x4 : Value) (g : Nat) (hg : g ≠ b) : (setR14 w b x0 x1 x2 x3 x4).heap[g]? = w.heap[g]? := by
  unfold setR14
  rw [heap_setn _ _ _ _ hg, heap_setn _ _ _ _ hg, heap_setn _ _ _ _ hg, heap_setn _ _ _ _ hg, heap_setn _ _ _ _ hg]
theorem setR14_size (w : World) (b : Nat) (x0 x1 x2 x3 x4 : Value) : (setR14 w b x0 x1 x2 x3 x4).heap.size = w.heap.size := by
  unfold setR14
  simp [World.setCell]
def SPR.cl14 (f : Fld) (N : Nat) : SPR (fun u v => Below u.heap.size u v) := ⟨fun v w => ∃ v', v = FV f v' ∧ SB N v' f.subs w ∧ N ≤ w.heap.size, fun _ _ _ h hb => by
  obtain ⟨v', h1, h2, h3⟩ := h
  exact ⟨v', h1, h2.after hb, Nat.le_trans h3 hb.size⟩⟩
set_option maxHeartbeats 16000000 in
set_option maxRecDepth 100000 in
theorem mclone_any (r : Rec) (u : Value) (w : World) (hu : FL u r.fields w) (hz : r.fields.length ≤ 100000) (hsz : ∀ f ∈ r.fields, f.subs.length ≤ 100000) :
    Calls Tryd.prog 27 #[RV r u] w fun e w' => ∃ v', e = .returned (RV r v') ∧ FT (w.heap.size + 2) v' r.fields w' ∧ Below w.heap.size w w' ∧ w.heap.size + 2 ≤ w'.heap.size := by
  obtain ⟨c, hc⟩ : ∃ c : Fld → Fld, ∀ f, c f = f := ⟨fun f => f, fun _ => rfl⟩
  obtain ⟨Q, hQ⟩ : ∃ Q, (fun (e : Ending) (w' : World) => ∃ v', e = .returned (RV r v') ∧ FT (w.heap.size + 2) v' r.fields w' ∧ Below w.heap.size w w' ∧ w.heap.size + 2 ≤ w'.heap.size) = Q := ⟨_, rfl⟩
  rw [hQ]
  have HQ : RowKit.Hid (∀ v' W, FT (w.heap.size + 2) v' r.fields W → Below w.heap.size w W → w.heap.size + 2 ≤ W.heap.size → Q (.returned (RV r v')) W) := by
    rw [← hQ]
    exact fun v' W h1 h2 h3 => ⟨v', rfl, h1, h2, h3⟩
  have HS := Lib.hid hsz
  have HCF := Lib.hid hc
  clear hc
  obtain ⟨a, cp0, hua, hcap, hmax⟩ := hu.length
  obtain ⟨L, hL⟩ : ∃ L, r.fields = L := ⟨_, rfl⟩
  obtain ⟨W0, hW0⟩ : ∃ W0, (w.alloc (.cells #[.int .i64 r.id, .int .i64 r.ver, .int .i64 r.kind, .string (S r.lang), u] 31)).alloc (.cells #[.int .i64 0, .int .i64 0, .int .i64 0, .string ⟨#[]⟩, .slice none 0 0] 31) = W0 := ⟨_, rfl⟩
  have b0 : Below w.heap.size w W0 := by rw [← hW0]; exact ((Below.refl w.heap.size w).alloc (Nat.le_refl _) _).alloc (by simp) _
  have hsz0 : W0.heap.size = w.heap.size + 2 := by rw [← hW0]; simp
  have hX : W0.heap[w.heap.size]? = some (.cells #[.int .i64 r.id, .int .i64 r.ver, .int .i64 r.kind, .string (S r.lang), u] 31 (0, 0)) := by
    rw [← hW0]
    exact (Below.heap_alloc _ _ _ (by simp)).trans (heap_alloc_new w _)
  have hR : W0.heap[w.heap.size + 1]? = some (.cells #[.int .i64 0, .int .i64 0, .int .i64 0, .string ⟨#[]⟩, .slice none 0 0] 31 (0, 0)) := by
    rw [← hW0]
    have := heap_alloc_new (w.alloc (.cells #[.int .i64 r.id, .int .i64 r.ver, .int .i64 r.kind, .string (S r.lang), u] 31)) (.cells #[.int .i64 0, .int .i64 0, .int .i64 0, .string ⟨#[]⟩, .slice none 0 0] 31)
    simpa using this
  have cK := Lib.hid (fclone_any w r.fields u W0 b0 hu hz)
  rw [hsz0] at cK
  have HW0 := Lib.hid hW0
  have HX := Lib.hid (fun (W : World) (h : Below (w.heap.size + 2) W0 W) => (h.block w.heap.size (by omega)).trans hX)
  have HR := Lib.hid (fun (W : World) (h : Below (w.heap.size + 2) W0 W) => (h.block (w.heap.size + 1) (by omega)).trans hR)
  have HB0 := Lib.hid b0
  have HSz := Lib.hid hsz0
  have k4 : W0.cell? ⟨w.heap.size, 4, none⟩ = some u := (rcells14 hX).1.2.2.2.2
  have hRV : RV r = fun v' => .agg #[.int .i64 r.id, .int .i64 r.ver, .int .i64 r.kind, .string (S r.lang), v'] := rfl
  rw [hRV] at HQ
  unfold RV
  rw [hL] at HS cK hcap HQ hz hua
  clear hQ hu hsz hW0 hX hR b0 hsz0 hRV
  obtain ⟨n, hn⟩ : ∃ n, L.length = n := ⟨_, rfl⟩
  have HN := Lib.hid hn
  rw [hn] at hcap hz hua
  clear hn
  generalize S r.lang = lg at *
  generalize r.id = rid at *
  generalize r.ver = rver at *
  generalize r.kind = rkind at *
  subst hua
  go_enter Tryd.func27, Tryd.ntmps27
  go_upto_region 1 with fail
  rw [HW0.out]
  go_wp2_with fail
  refine cK.out.mono ?_
  rintro e w1 ⟨v, rfl, hfq, hb1⟩
  have hX1 := HX.out w1 hb1
  have hR1 := HR.out w1 hb1
  obtain ⟨⟨x0, x1, x2, x3, x4⟩, f0, f1, f2, f3, f4⟩ := rcells14 hX1
  have HSz1 : RowKit.Hid (w.heap.size + 2 ≤ w1.heap.size) := by have := hb1.size; have := HSz.out; unfold RowKit.Hid; omega
  have HB1 : RowKit.Hid (Below w.heap.size w (w1.setCell ⟨w.heap.size, 4, none⟩ v)) := (HB0.out.trans (hb1.mono (by omega))).setCell (p := ⟨w.heap.size, 4, none⟩) (Nat.le_refl _) _
  have HC1 : RowKit.Hid (CH w (w.heap.size + 2) v c L 0 (w1.setCell ⟨w.heap.size, 4, none⟩ v)) := (CH.start hfq).on (by simp [World.setCell]) (fun i hi _ => heap_setn _ _ _ _ (by simp; omega))
  have HX1 : RowKit.Hid ((w1.setCell ⟨w.heap.size, 4, none⟩ v).heap[w.heap.size]? = some (.cells #[.int .i64 rid, .int .i64 rver, .int .i64 rkind, .string lg, v] 31 (0, 0))) := by
    unfold RowKit.Hid
    simp [World.setCell, Array.getElem?_modify, hX1]
  have HR1 : RowKit.Hid ((w1.setCell ⟨w.heap.size, 4, none⟩ v).heap[w.heap.size + 1]? = some (.cells #[.int .i64 0, .int .i64 0, .int .i64 0, .string ⟨#[]⟩, .slice none 0 0] 31 (0, 0))) :=
    (heap_setn _ _ _ _ (by simp)).trans hR1
  obtain ⟨ao, cp, hv⟩ := HC1.out.form
  rw [HN.out] at hv
  subst hv
  clear hfq hb1 hX1 hR1 cK k4
  go_upto_region 2 with fail
  obtain ⟨w2, hw2⟩ : ∃ w2, w1.setCell ⟨w.heap.size, 4, none⟩ (.slice ao n cp) = w2 := ⟨_, rfl⟩
  rw [hw2] at HC1 HB1 HX1 HR1 ⊢
  have hs2 : w1.heap.size = w2.heap.size := by rw [← hw2]; simp [World.setCell]
  rw [hs2] at HSz1
  clear x0 x1 x2 x3 x4 f0 f1 f2 f3 f4 hw2 hs2
  have y4 : w2.cell? ⟨w.heap.size, 4, none⟩ = some (.slice ao n cp) := (rcells14 HX1.out).1.2.2.2.2
  go_wp2
  clear y4
  go_loopw [12] (fun s14 wr => ∃ k : Nat, s14 = .int .i64 (k : Int) ∧ k ≤ n ∧ RowKit.Hid (CH w (w.heap.size + 2) (.slice ao n cp) c L k wr) ∧ RowKit.Hid (wr.heap[w.heap.size]? = some (.cells #[.int .i64 rid, .int .i64 rver, .int .i64 rkind, .string lg, .slice ao n cp] 31 (0, 0))) ∧
    RowKit.Hid (wr.heap[w.heap.size + 1]? = some (.cells #[.int .i64 0, .int .i64 0, .int .i64 0, .string ⟨#[]⟩, .slice none 0 0] 31 (0, 0))) ∧ RowKit.Hid (Below w.heap.size w wr ∧ w.heap.size + 2 ≤ wr.heap.size)) (fun s14 _ => n - (intOf s14).toNat)
  case atStart => exact ⟨0, rfl, Nat.zero_le _, HC1.out, HX1.out, HR1.out, HB1.out, HSz1.out⟩
  case round =>
    obtain ⟨k, rfl, hk, HC, HX, HR, HB⟩ := hrel
    clear HC1 HX1 HR1 HB1 HSz1
    by_cases hkn : k < n
    · have i1 : (0 : Int) ≤ (k : Int) := by omega
      have i2 : (k : Int) < (n : Int) := by omega
      obtain ⟨g, cap, ux0, hv, hg1, hg2, hc1, hc2, ⟨c0, c1, c2, c3⟩, hfz, hq⟩ := HC.out.open (by rw [HN.out]; exact hkn)
      rw [HN.out] at hv
      obtain ⟨rfl, -, rfl⟩ := Value.slice.inj hv
      obtain ⟨ux, cx, hux, hx1, hx2⟩ := hq.length
      have hmem : L.getD k fd0 ∈ L := by
        rw [List.getD_eq_getElem?_getD, List.getElem?_eq_getElem (by rw [HN.out]; exact hkn)]
        exact List.getElem_mem _
      obtain ⟨f, hf⟩ : ∃ f, L.getD k fd0 = f := ⟨_, rfl⟩
      have HPut := Lib.hid (fun (W : World) (h : CH w (w.heap.size + 2) (.slice (some ⟨g, 0, none⟩) n cp) c L k W) (u : Value) (hu : SB (w.heap.size + 2) u (c (L.getD k fd0)).subs W) => CH.put h HN.out hkn u hu)
      rw [hf] at c0 c1 c3 hq hux hmem HPut
      obtain ⟨wb, hwb⟩ : ∃ W, wr.alloc (.cells #[.string (S f.tag), .string (S f.ind), ux0, .int .i64 f.auth] 45) = W := ⟨_, rfl⟩
      have bb : Below wr.heap.size wr wb := by rw [← hwb]; exact (Below.refl _ _).alloc (Nat.le_refl _) _
      have hFx : wb.heap[wr.heap.size]? = some (.cells #[.string (S f.tag), .string (S f.ind), ux0, .int .i64 f.auth] 45 (0, 0)) := by rw [← hwb]; exact heap_alloc_new wr _
      have hsb : wb.heap.size = wr.heap.size + 1 := by rw [← hwb]; simp
      have HBb : RowKit.Hid (Below w.heap.size w wb) := HB.out.1.trans (bb.mono HB.out.1.size)
      have HCb : RowKit.Hid (CH w (w.heap.size + 2) (.slice (some ⟨g, 0, none⟩) n cp) c L k wb) := HC.out.after bb
      have HBox := Lib.hid (fun (W : World) (h : Below wb.heap.size wb W) => (h.block w.heap.size (by have := HB.out.2; omega)).trans ((bb.block w.heap.size (by have := HB.out.2; omega)).trans HX.out))
      have HRes := Lib.hid (fun (W : World) (h : Below wb.heap.size wb W) => (h.block (w.heap.size + 1) (by have := HB.out.2; omega)).trans ((bb.block (w.heap.size + 1) (by have := HB.out.2; omega)).trans HR.out))
      have HFx := Lib.hid (fun (W : World) (h : Below wb.heap.size wb W) => (h.block wr.heap.size (by omega)).trans hFx)
      have cC := Lib.hid (fun (W : World) (h : Below wb.heap.size wb W) => mcloneF_any f ux0 W (hq.after (HBb.out.trans (h.mono HBb.out.size))) (HS.out f hmem))
      have HG : RowKit.Hid (g < wb.heap.size ∧ w.heap.size + 2 ≤ wb.heap.size ∧ w.heap.size + 2 ≤ g) := ⟨by omega, by have := HB.out.2; omega, hg1⟩
      have HWb := Lib.hid hwb
      subst hux
      have hux : ∀ v', FV f v' = .agg #[.string (S f.tag), .string (S f.ind), v', .int .i64 f.auth] := fun _ => rfl
      rw [hux] at cC
      obtain ⟨nx, hnx⟩ : ∃ nx, f.subs.length = nx := ⟨_, rfl⟩
      rw [hnx] at c2 hwb HWb HFx cC
      obtain ⟨bx, hbx⟩ : ∃ b, wr.heap.size = b := ⟨_, rfl⟩
      rw [hbx] at HFx
      clear hv hq hux hx1 hx2 hmem hf hwb hFx hsb hfz hnx hg1 hg2 hc1 hc2 bb HC HX HR
      go_upto_region 5 with fail
      rw [HWb.out]
      try rw [hbx]
      clear c0 c1 c2 c3 HWb
      apply wp_region_last (R := fun u v => Below u.heap.size u v) (V := [SPR.eq _ (.pointer (some ⟨w.heap.size, 4, none⟩)), SPR.eq _ (.slice (some ⟨g, 0, none⟩) n cp), SPR.eq _ (.int .i64 (k : Int)), SPR.eq _ (.agg #[.string (S f.tag), .string (S f.ind), .slice ux nx cx, .int .i64 f.auth]), SPR.cl14 f wb.heap.size, SPR.eq _ (.pointer (some ⟨g, k * 4, none⟩))]) (n := 6) (f := 10)
      case htrans => exact fun _ _ _ h k => h.trans (k.mono h.size)
      case hdrew => exact (Below.refl _ _).drew
      case hm => kernel_rfl
      case hd => kernel_rfl
      case hb => kernel_rfl
      case hA =>
        intro vs
        simp only [puts, Act.put, List.setIfInBounds_toArray, List.set_cons_zero, List.set_cons_succ]
        exact rfl
      case hlast => kernel_rfl
      case hol => exact rfl
      case hob =>
        refine ObsR.cons _ _ _ _ _ _ _ ?o0 (ObsR.cons _ _ _ _ _ _ _ ?o1 (ObsR.cons _ _ _ _ _ _ _ ?o2 (ObsR.cons _ _ _ _ _ _ _ ?o3 (ObsR.cons _ _ _ _ _ _ _ ?o4 (ObsR.cons _ _ _ _ _ _ _ ?o5 (ObsR.nil _ _ _ _ _ _ _))))))
        case o0 =>
          intro vs W hw hd K hK
          go_simp
          exact hK.out _ _ rfl (Below.refl _ _)
        case o1 =>
          intro vs W hw hd K hK
          have h0 : vs 0 = .pointer (some ⟨w.heap.size, 4, none⟩) := hd 0 (by kernel_rfl)
          obtain ⟨⟨b40, b41, b42, b43, b44⟩, -⟩ := rcells14 (HBox.out W hw)
          simp only [Nat.reduceAdd, h0] at hK ⊢
          go_simp
          exact hK.out _ _ rfl (Below.refl _ _)
        case o2 =>
          intro vs W hw hd K hK
          go_simp
          exact hK.out _ _ rfl (Below.refl _ _)
        case o3 =>
          intro vs W hw hd K hK
          obtain ⟨⟨p0, p1, p2, p3⟩, -⟩ := fcells4 (HFx.out W hw)
          go_simp
          exact hK.out _ _ rfl (Below.refl _ _)
        case o4 =>
          intro vs W hw hd K hK
          have h3 : vs 3 = .agg #[.string (S f.tag), .string (S f.ind), .slice ux nx cx, .int .i64 f.auth] := hd 3 (by kernel_rfl)
          simp only [Nat.reduceAdd, h3] at hK ⊢
          go_simp
          refine (cC.out W hw).mono ?_
          rintro e W' ⟨v', rfl, hs, hb'⟩
          exact hK.out _ _ ⟨v', rfl, hs.base (by have := hw.size; omega), by have := hb'.size; have := hw.size; omega⟩ hb'
        case o5 =>
          intro vs W hw hd K hK
          have h1 : vs 1 = .slice (some ⟨g, 0, none⟩) n cp := hd 1 (by kernel_rfl)
          have h2 : vs 2 = .int .i64 (k : Int) := hd 2 (by kernel_rfl)
          simp only [Nat.reduceAdd, h1, h2] at hK ⊢
          go_simp
          exact hK.out _ _ rfl (Below.refl _ _)
      case hfin =>
        intro vs W hw hv'
        obtain ⟨u', e6, hs6, -⟩ : ∃ u', vs 4 = FV f u' ∧ SB wb.heap.size u' f.subs W ∧ wb.heap.size ≤ W.heap.size := hv' 4 (by decide)
        have hn6 : New wb.heap.size (QL u' f.subs) W := hs6.new
        have e7 : vs 5 = .pointer (some ⟨g, k * 4, none⟩) := hv' 5 (by decide)
        have hCW := HCb.out.after hw
        obtain ⟨au, cu, hu', -, -⟩ := hn6.here.length
        obtain ⟨g', cap', ux', hv2, -, -, -, -, ⟨d0, d1, d2, d3⟩, hfz, -⟩ := hCW.open (by rw [HN.out]; exact hkn)
        rw [HN.out] at hv2
        obtain ⟨hgg, -, -⟩ := Value.slice.inj hv2
        obtain rfl : g = g' := by simpa using hgg
        have z0 := hfz (k * 4)
        have z1 := hfz (k * 4 + 1)
        have z2 := hfz (k * 4 + 2)
        have z3 := hfz (k * 4 + 3)
        have HP := Lib.hid (HPut.out W hCW u' (by rw [HCF.out]; exact hs6.base HG.out.2.1))
        rw [HCF.out] at HP
        have HXP : RowKit.Hid ((setF4at W g (k * 4) (.string (S f.tag)) (.string (S f.ind)) u' (.int .i64 f.auth)).heap[w.heap.size]? = some (.cells #[.int .i64 rid, .int .i64 rver, .int .i64 rkind, .string lg, .slice (some ⟨g, 0, none⟩) n cp] 31 (0, 0))) :=
          (setF4at_other _ _ _ _ _ (by have := HG.out.2.2; omega)).trans (HBox.out W hw)
        have HRP : RowKit.Hid ((setF4at W g (k * 4) (.string (S f.tag)) (.string (S f.ind)) u' (.int .i64 f.auth)).heap[w.heap.size + 1]? = some (.cells #[.int .i64 0, .int .i64 0, .int .i64 0, .string ⟨#[]⟩, .slice none 0 0] 31 (0, 0))) :=
          (setF4at_other _ _ _ _ _ (by have := HG.out.2.2; omega)).trans (HRes.out W hw)
        have HBP : RowKit.Hid (Below w.heap.size w (setF4at W g (k * 4) (.string (S f.tag)) (.string (S f.ind)) u' (.int .i64 f.auth)) ∧ w.heap.size + 2 ≤ (setF4at W g (k * 4) (.string (S f.tag)) (.string (S f.ind)) u' (.int .i64 f.auth)).heap.size) :=
          ⟨setF4at_below (HBb.out.trans (hw.mono HBb.out.size)) (by have := HG.out.2.2; omega) _ _ _ _ _, by rw [setF4at_size]; have := HG.out.2.1; have := hw.size; omega⟩
        unfold FV at e6
        subst hu'
        unfold setF4at at HP HXP HRP HBP
        clear hv' hCW hv2 hgg hfz hn6 hs6 cC HPut HBox HRes HFx HCb
        simp only [Nat.reduceAdd, e6, e7]
        go_simp
        go_wp2
        go_roundw
        case rel => exact ⟨k + 1, by go_num, by omega, HP.out, HXP.out, HRP.out, HBP.out⟩
        case measure => simp [intOf]; omega
    · obtain rfl : k = n := by omega
      have hfn : CH w (w.heap.size + 2) (.slice ao k cp) c L L.length wr := by rw [HN.out]; exact HC.out
      have hfn2 := hfn.fn
      obtain ⟨⟨x0, x1, x2, x3, x4⟩, f0, f1, f2, f3, f4⟩ := rcells14 HX.out
      obtain ⟨⟨r0, r1, r2, r3, r4⟩, s0, s1, s2, s3, s4⟩ := rcells14 HR.out
      have HFin : RowKit.Hid ((setR14 wr (w.heap.size + 1) (.int .i64 rid) (.int .i64 rver) (.int .i64 rkind) (.string lg) (.slice ao k cp)).heap[w.heap.size + 1]? = some (.cells #[.int .i64 rid, .int .i64 rver, .int .i64 rkind, .string lg, .slice ao k cp] 31 (0, 0))) := rec_set HR.out
      have HBF : RowKit.Hid (Below w.heap.size w (setR14 wr (w.heap.size + 1) (.int .i64 rid) (.int .i64 rver) (.int .i64 rkind) (.string lg) (.slice ao k cp))) := rec_below HB.out.1 (Nat.le_succ _) _ _ _ _ _
      have hmap : L.map c = L := by
        conv => rhs; rw [← List.map_id L]
        exact List.map_congr_left fun x _ => HCF.out x
      rw [hmap] at hfn2
      have HNF : RowKit.Hid (FT (w.heap.size + 2) (.slice ao k cp) L (setR14 wr (w.heap.size + 1) (.int .i64 rid) (.int .i64 rver) (.int .i64 rkind) (.string lg) (.slice ao k cp))) :=
        hfn2.kept (KpF.of (Nat.le_of_eq (setR14_size _ _ _ _ _ _ _).symm) (fun i hi _ => setR14_other _ _ _ _ _ i (by omega)))
      have HGood := Lib.hid (HQ.out _ _ HNF.out HBF.out (by rw [setR14_size]; exact HB.out.2))
      unfold setR14 at HFin HGood
      clear hfn hfn2 hmap HC HX HR HB HNF HBF HQ
      go_wp2
      (try simp only [Exit.inBlock, Exit.then])
      refine bodyPost_ret (results_cell_row rfl _ _ (w.heap.size + 1) _ _ _ _ rfl HFin.out Tryd.underlying31 rfl (by kernel_rfl)) rfl ?_
      exact HGood.out
end

end Go.Proofs.YtceneblmllpdnaaDoor
