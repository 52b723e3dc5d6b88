/- Merged: FS13, QC13, QD13, R13F, QE13. -/
import Derived.Test.YthjdopnoophigaaGreatDoorQ25
import Derived.Test.YthjdopnoophigaaGreatDoorQ18
import Derived.Test.YthjdopnoophigaaGreatDoorQ04
import Derived.Test.YthjdopnoophigaaGreatDoorQ16
namespace Go.Proofs.YthjdopnoophigaaGreatDoor

section
open Go.RowKit Go.PlainAid
theorem own_types {B1 B2 e1 e2 s1 s2 n m : Nat} {u v : Value} {xs ys : List Value} {w : World} (h1 : w.ownsRow B1 e1 s1 u n xs) (h2 : w.ownsRow B2 e2 s2 v m ys) (hne : e1 ≠ e2) : Apt u v := by
  rcases h1.2 with ⟨rfl, _⟩ | ⟨g, cap, cur, rfl, _, hg, _⟩
  · exact .inl rfl
  · rcases h2.2 with ⟨rfl, _⟩ | ⟨g', cap', cur', rfl, _, hg', _⟩
    · exact Apt.nilR _
    · refine .inr fun e => hne ?_
      have hgg : g = g' := by simpa [Value.ownBlock] using e
      subst hgg
      rw [hg] at hg'
      injection hg' with hg'
      injection hg' with _ h5 _
theorem ne_si : 9 ≠ 3 := by decide
theorem own_lt {B e s n k : Nat} {u : Value} {xs : List Value} {w : World} (h : w.ownsRow B e s u n xs) (hk : u.ownBlock = some k) : k < w.heap.size := (h.lt k hk).2
theorem apt_new {B e s n : Nat} {u v : Value} {xs : List Value} {w : World} (h : w.ownsRow B e s u n xs) {k : Nat} (hv : v.ownBlock = some k) (hk : w.heap.size ≤ k) : Apt v u := by
  refine .inr fun e => ?_
  have := own_lt h (k := k) (by rw [← e, hv])
  omega
theorem get_set {F : List Ent} {i : Nat} {y z : Ent} (_hi : i < F.length) (h : z ∈ F.set i y) : z = y ∨ ∃ j, j ≠ i ∧ F[j]? = some z := by
  obtain ⟨j, hj, e⟩ := List.mem_iff_getElem.1 h
  rw [List.getElem_set] at e
  by_cases hji : i = j
  · rw [if_pos hji] at e
    exact .inl e.symm
  · rw [if_neg hji] at e
    rw [List.length_set] at hj
    exact .inr ⟨j, fun h => hji h.symm, by rw [List.getElem?_eq_getElem hj, e]⟩
theorem pair_at {F : List Ent} {f : Ent → Value} (h : F.Pairwise fun x y => Apt (f x) (f y)) {i j : Nat} {x y : Ent} (hi : F[i]? = some x) (hj : F[j]? = some y) (hne : j ≠ i) : Apt (f x) (f y) := by
  obtain ⟨h1, rfl⟩ := List.getElem?_eq_some_iff.1 hi
  obtain ⟨h2, rfl⟩ := List.getElem?_eq_some_iff.1 hj
  rcases Nat.lt_or_gt_of_ne hne with h3 | h3
  · exact (List.pairwise_iff_getElem.1 h j i h2 h1 h3).symm
  · exact List.pairwise_iff_getElem.1 h i j h1 h2 h3
theorem set_one (F : List Ent) (i : Nat) (x y : Ent) (hi : F[i]? = some x) (k : Nat) (u : Value) (hk : k < 5) (hu : (cellsU x).set k u = cellsU y) : (F.flatMap cellsU).set (i * 5 + k) u = (F.set i y).flatMap cellsU := by
  obtain ⟨h1, h2⟩ := cells_mid F i x hi
  rw [h1, set_mid _ _ _ _ _ _ h2 (by show k < 5; exact hk), hu, ← ent_set F i x y hi]

/-- See of one authority has been changed in its row or in a new one, and is stored. -/
theorem FR.putSee {B : Nat} {F : List Ent} {w w' : World} {g cap : Nat} (h : FR B (.slice (some ⟨g, 0, none⟩) F.length cap) F w) (i : Nat) (x : Ent) (hi : F[i]? = some x) (hg : w.grownBy w' x.2.1.ownBlock) (s' : Value) (l : List (List UInt8)) (hs : NR B s' l w')
    (hb : s'.ownBlock = none ∨ s'.ownBlock = x.2.1.ownBlock ∨ ∃ k, s'.ownBlock = some k ∧ w.heap.size ≤ k) :
    FR B (.slice (some ⟨g, 0, none⟩) F.length cap) (F.set i ({ x.1 with see := l }, s', x.2.2)) (w'.setCell ⟨g, i * 5 + 3, none⟩ s') := by
  obtain ⟨hlt, _⟩ := List.getElem?_eq_some_iff.1 hi
  have hmx : x ∈ F := List.mem_of_getElem? hi
  have hrow := h.row.kept hg (own_types h.row (h.see x hmx) (fun e => ne_string e.symm))
  have keep : ∀ {e n : Nat} {v : Value} {xs : List Value}, e ≠ 56 → w'.ownsRow B e 1 v n xs → (w'.setCell ⟨g, i * 5 + 3, none⟩ s').ownsRow B e 1 v n xs := by
    intro e n v xs hne hr
    refine ⟨hr.1, ?_⟩
    rcases hr.2 with hn | ⟨g', cap', cur', hv', hb', hg', rest⟩
    · exact .inl hn
    · refine .inr ⟨g', cap', cur', hv', hb', ?_, rest⟩
      rw [Below.heap_setCell w' _ s' g' ?_]
      · exact hg'
      · intro hgg
        simp only at hgg
        subst hgg
        rcases hrow.2 with ⟨h0, _⟩ | ⟨g2, _, cur2, hv2, _, hg2, _⟩
        · cases h0
        · have : g' = g2 := by simpa using (Value.slice.inj hv2).1
          subst this
          rw [hg'] at hg2
          injection hg2 with hg2
          injection hg2 with _ h5 _
          exact hne h5
  refine ⟨?_, fun z hz => ?_, fun z hz => ?_, ?_, ?_⟩
  · have := row_set hrow rfl (i * 5 + 3) (by omega) s'
    rw [set_one F i x ({ x.1 with see := l }, s', x.2.2) hi 3 s' (by omega) rfl] at this
    rw [List.length_set]
    exact this
  · refine keep ne_string ?_
    rcases get_set hlt hz with rfl | ⟨j, hj, hjz⟩
    · exact hs
    · exact (h.see z (List.mem_of_getElem? hjz)).kept hg (pair_at h.sap hjz hi (Ne.symm hj))
  · refine keep ne_int ?_
    rcases get_set hlt hz with rfl | ⟨j, hj, hjz⟩
    · exact (h.abv x hmx).kept hg (own_types (h.abv x hmx) (h.see x hmx) (fun e => ne_si e.symm))
    · exact (h.abv z (List.mem_of_getElem? hjz)).kept hg (own_types (h.abv z (List.mem_of_getElem? hjz)) (h.see x hmx) (fun e => ne_si e.symm))
  · refine apt_set h.sap i _ fun j z hj hjz => ?_
    show Apt s' z.2.1
    rcases hb with hb | hb | ⟨k, hb, hk⟩
    · exact .inl hb
    · have := pair_at h.sap hi hjz hj
      unfold Apt at this ⊢
      rw [hb]
      exact this
    · exact apt_new (h.see z (List.mem_of_getElem? hjz)) hb hk
  · exact apt_set h.aap i _ fun j z hj hjz => (show Apt x.2.2 z.2.2 from pair_at h.aap hi hjz hj)
/-- Above of one authority has been changed in its row or in a new one, and is stored. -/
theorem FR.putAbv {B : Nat} {F : List Ent} {w w' : World} {g cap : Nat} (h : FR B (.slice (some ⟨g, 0, none⟩) F.length cap) F w) (i : Nat) (x : Ent) (hi : F[i]? = some x) (hg : w.grownBy w' x.2.2.ownBlock) (t' : Value) (l : List Int) (ht : IR B t' l w')
    (hb : t'.ownBlock = none ∨ t'.ownBlock = x.2.2.ownBlock ∨ ∃ k, t'.ownBlock = some k ∧ w.heap.size ≤ k) :
    FR B (.slice (some ⟨g, 0, none⟩) F.length cap) (F.set i ({ x.1 with above := l }, x.2.1, t')) (w'.setCell ⟨g, i * 5 + 4, none⟩ t') := by
  obtain ⟨hlt, _⟩ := List.getElem?_eq_some_iff.1 hi
  have hmx : x ∈ F := List.mem_of_getElem? hi
  have hrow := h.row.kept hg (own_types h.row (h.abv x hmx) (fun e => ne_int e.symm))
  have keep : ∀ {e n : Nat} {v : Value} {xs : List Value}, e ≠ 56 → w'.ownsRow B e 1 v n xs → (w'.setCell ⟨g, i * 5 + 4, none⟩ t').ownsRow B e 1 v n xs := by
    intro e n v xs hne hr
    refine ⟨hr.1, ?_⟩
    rcases hr.2 with hn | ⟨g', cap', cur', hv', hb', hg', rest⟩
    · exact .inl hn
    · refine .inr ⟨g', cap', cur', hv', hb', ?_, rest⟩
      rw [Below.heap_setCell w' _ t' g' ?_]
      · exact hg'
      · intro hgg
        simp only at hgg
        subst hgg
        rcases hrow.2 with ⟨h0, _⟩ | ⟨g2, _, cur2, hv2, _, hg2, _⟩
        · cases h0
        · have : g' = g2 := by simpa using (Value.slice.inj hv2).1
          subst this
          rw [hg'] at hg2
          injection hg2 with hg2
          injection hg2 with _ h5 _
          exact hne h5
  refine ⟨?_, fun z hz => ?_, fun z hz => ?_, ?_, ?_⟩
  · have := row_set hrow rfl (i * 5 + 4) (by omega) t'
    rw [set_one F i x ({ x.1 with above := l }, x.2.1, t') hi 4 t' (by omega) rfl] at this
    rw [List.length_set]
    exact this
  · refine keep ne_string ?_
    rcases get_set hlt hz with rfl | ⟨j, hj, hjz⟩
    · exact (h.see x hmx).kept hg (own_types (h.see x hmx) (h.abv x hmx) ne_si)
    · exact (h.see z (List.mem_of_getElem? hjz)).kept hg (own_types (h.see z (List.mem_of_getElem? hjz)) (h.abv x hmx) ne_si)
  · refine keep ne_int ?_
    rcases get_set hlt hz with rfl | ⟨j, hj, hjz⟩
    · exact ht
    · exact (h.abv z (List.mem_of_getElem? hjz)).kept hg (pair_at h.aap hjz hi (Ne.symm hj))
  · exact apt_set h.sap i _ fun j z hj hjz => (show Apt x.2.1 z.2.1 from pair_at h.sap hi hjz hj)
  · refine apt_set h.aap i _ fun j z hj hjz => ?_
    show Apt t' z.2.2
    rcases hb with hb | hb | ⟨k, hb, hk⟩
    · exact .inl hb
    · have := pair_at h.aap hi hjz hj
      unfold Apt at this ⊢
      rw [hb]
      exact this
    · exact apt_new (h.abv z (List.mem_of_getElem? hjz)) hb hk
/-- Another heading is stored. -/
theorem FR.putHead {B : Nat} {F : List Ent} {w : World} {g cap : Nat} (h : FR B (.slice (some ⟨g, 0, none⟩) F.length cap) F w) (i : Nat) (x : Ent) (hi : F[i]? = some x) (hd : List UInt8) :
    FR B (.slice (some ⟨g, 0, none⟩) F.length cap) (F.set i ({ x.1 with heading := hd }, x.2.1, x.2.2)) (w.setCell ⟨g, i * 5 + 2, none⟩ (.string (S hd))) := by
  obtain ⟨hlt, _⟩ := List.getElem?_eq_some_iff.1 hi
  have hmx : x ∈ F := List.mem_of_getElem? hi
  refine ⟨?_, fun z hz => ?_, fun z hz => ?_, ?_, ?_⟩
  · have := row_set h.row rfl (i * 5 + 2) (by omega) (.string (S hd))
    rw [set_one F i x ({ x.1 with heading := hd }, x.2.1, x.2.2) hi 2 (.string (S hd)) (by omega) rfl] at this
    rw [List.length_set]
    exact this
  · refine set_keeps13 ne_string ?_ h rfl _ _
    rcases get_set hlt hz with rfl | ⟨j, hj, hjz⟩
    · exact h.see x hmx
    · exact h.see z (List.mem_of_getElem? hjz)
  · refine set_keeps13 ne_int ?_ h rfl _ _
    rcases get_set hlt hz with rfl | ⟨j, hj, hjz⟩
    · exact h.abv x hmx
    · exact h.abv z (List.mem_of_getElem? hjz)
  · exact apt_set h.sap i _ fun j z hj hjz => (show Apt x.2.1 z.2.1 from pair_at h.sap hi hjz hj)
  · exact apt_set h.aap i _ fun j z hj hjz => (show Apt x.2.2 z.2.2 from pair_at h.aap hi hjz hj)
def setA5at (w : World) (g o : Nat) (x0 x1 x2 x3 x4 : Value) : World := ((((w.setCell ⟨g, o, none⟩ x0).setCell ⟨g, o + 1, none⟩ x1).setCell ⟨g, o + 2, none⟩ x2).setCell ⟨g, o + 3, none⟩ x3).setCell ⟨g, o + 4, none⟩ x4
theorem set5_below {n : Nat} {w W : World} {g o : Nat} {x0 x1 x2 x3 x4 : Value} (h : Below n w W) (hb : n ≤ g) : Below n w (setA5at W g o x0 x1 x2 x3 x4) :=
  ((((h.setCell (p := ⟨g, o, none⟩) hb x0).setCell (p := ⟨g, o + 1, none⟩) hb x1).setCell (p := ⟨g, o + 2, none⟩) hb x2).setCell (p := ⟨g, o + 3, none⟩) hb x3).setCell (p := ⟨g, o + 4, none⟩) hb x4
/-- Another authority is stored, with rows of its own. -/
theorem FR.put5 {B : Nat} {F : List Ent} {w : World} {g cap : Nat} (h : FR B (.slice (some ⟨g, 0, none⟩) F.length cap) F w) (i : Nat) (hi : i < F.length) (y : Ent) (hs : NR B y.2.1 y.1.see w) (ht : IR B y.2.2 y.1.above w)
    (hsa : ∀ x ∈ F, Apt y.2.1 x.2.1) (hta : ∀ x ∈ F, Apt y.2.2 x.2.2) :
    FR B (.slice (some ⟨g, 0, none⟩) F.length cap) (F.set i y) (setA5at w g (i * 5) (.int .i64 y.1.id) (.int .i64 y.1.kind) (.string (S y.1.heading)) y.2.1 y.2.2) := by
  obtain ⟨x, hx⟩ : ∃ x, F[i]? = some x := ⟨F[i], List.getElem?_eq_getElem hi⟩
  have h0 := row_set h.row rfl (i * 5) (by omega) (.int .i64 y.1.id)
  have h1 := row_set h0 rfl (i * 5 + 1) (by omega) (.int .i64 y.1.kind)
  have h2 := row_set h1 rfl (i * 5 + 2) (by omega) (.string (S y.1.heading))
  have h3 := row_set h2 rfl (i * 5 + 3) (by omega) y.2.1
  have h4 := row_set h3 rfl (i * 5 + 4) (by omega) y.2.2
  have keep : ∀ {e n : Nat} {v : Value} {xs : List Value}, e ≠ 56 → w.ownsRow B e 1 v n xs → (setA5at w g (i * 5) (.int .i64 y.1.id) (.int .i64 y.1.kind) (.string (S y.1.heading)) y.2.1 y.2.2).ownsRow B e 1 v n xs := by
    intro e n v xs hne hr
    refine ⟨hr.1, ?_⟩
    rcases hr.2 with hn | ⟨g', cap', cur', hv', hb', hg', rest⟩
    · exact .inl hn
    · refine .inr ⟨g', cap', cur', hv', hb', ?_, rest⟩
      have hgne : g' ≠ g := by
        intro hgg
        subst hgg
        rcases h.row.2 with ⟨h0, _⟩ | ⟨g2, _, cur2, hv2, _, hg2, _⟩
        · cases h0
        · have : g' = g2 := by simpa using (Value.slice.inj hv2).1
          subst this
          rw [hg'] at hg2
          injection hg2 with hg2
          injection hg2 with _ h5 _
          exact hne h5
      unfold setA5at
      rw [Below.heap_setCell _ _ _ g' hgne, Below.heap_setCell _ _ _ g' hgne, Below.heap_setCell _ _ _ g' hgne, Below.heap_setCell _ _ _ g' hgne, Below.heap_setCell _ _ _ g' hgne]
      exact hg'
  refine ⟨?_, fun z hz => ?_, fun z hz => ?_, ?_, ?_⟩
  · rw [List.length_set]
    have e : ((((((F.flatMap cellsU).set (i * 5) (.int .i64 y.1.id)).set (i * 5 + 1) (.int .i64 y.1.kind)).set (i * 5 + 2) (.string (S y.1.heading))).set (i * 5 + 3) y.2.1).set (i * 5 + 4) y.2.2) = (F.set i y).flatMap cellsU := by
      obtain ⟨m1, m2⟩ := cells_mid F i x hx
      have e0 := set_mid ((F.take i).flatMap cellsU) ((F.drop (i + 1)).flatMap cellsU) (cellsU x) (i * 5) 0 (.int .i64 y.1.id) m2 (by show 0 < 5; omega)
      simp only [Nat.add_zero] at e0
      rw [m1, e0, set_mid _ _ _ _ 1 _ m2 (by show 1 < 5; omega), set_mid _ _ _ _ 2 _ m2 (by show 2 < 5; omega), set_mid _ _ _ _ 3 _ m2 (by show 3 < 5; omega), set_mid _ _ _ _ 4 _ m2 (by show 4 < 5; omega), ent_set F i x y hx]
      rfl
    rw [e] at h4
    exact h4
  · refine keep ne_string ?_
    rcases get_set hi hz with rfl | ⟨j, hj, hjz⟩
    · exact hs
    · exact h.see z (List.mem_of_getElem? hjz)
  · refine keep ne_int ?_
    rcases get_set hi hz with rfl | ⟨j, hj, hjz⟩
    · exact ht
    · exact h.abv z (List.mem_of_getElem? hjz)
  · exact apt_set h.sap i _ fun j z hj hjz => hsa z (List.mem_of_getElem? hjz)
  · exact apt_set h.aap i _ fun j z hj hjz => hta z (List.mem_of_getElem? hjz)
end

section
open Go.RowKit Go.PlainAid
theorem FR.made (B : Nat) (v : Value) (n : Nat) (w : World) (h : w.ownsRow B 56 5 v n (madeCells (Value.agg #[.int .i64 0, .int .i64 0, .string ⟨#[]⟩, .slice none 0 0, .slice none 0 0]).cells (n * 5)).toList) : FR B v (List.replicate n ent0) w := by
  rw [made_ents] at h
  refine ⟨by rw [List.length_replicate]; exact h, fun x hx => ?_, fun x hx => ?_, ?_, ?_⟩
  · obtain ⟨_, rfl⟩ := List.mem_replicate.1 hx
    exact NR.none _ _
  · obtain ⟨_, rfl⟩ := List.mem_replicate.1 hx
    exact IR.zero _ _
  · exact List.pairwise_replicate.2 (.inr (Apt.nilL _))
  · exact List.pairwise_replicate.2 (.inr (Apt.nilL _))
theorem apt_fresh {B B' e e' s s' n m : Nat} {u v : Value} {xs ys : List Value} {w w' : World} (h1 : w'.ownsRow B' e s u n xs) (hB : w.heap.size ≤ B') (h2 : w.ownsRow B e' s' v m ys) : Apt u v := by
  cases hu : u.ownBlock with
  | none => exact .inl hu
  | some k => exact apt_new h2 hu (Nat.le_trans hB (h1.lt k hu).1)
end

section
open Go.RowKit Go.PlainAid
theorem bnd_len {L : List Au} (h : bnd L) : L.length ≤ 100000 ∧ ∀ a ∈ L, a.see.length ≤ 100000 ∧ a.above.length ≤ 100000 :=
  ⟨Nat.le_trans h.1 (by decide), fun a ha => ⟨Nat.le_trans (h.2 a ha).1 (by decide), Nat.le_trans (h.2 a ha).2.1 (by decide)⟩⟩
theorem an_own {B : Nat} {a : Au} {s t : Value} {w W : World} (hs : NR B s a.see w) (ht : IR B t a.above w) (hk : ∀ i, B ≤ i → i < w.heap.size → W.heap[i]? = w.heap[i]?) : AN a s t W :=
  ⟨NR.bl (B := B) (own_kept hs hk), IR.il (B := B) (own_kept ht hk)⟩

set_option maxHeartbeats 16000000 in
set_option maxRecDepth 100000 in
theorem get_any (v : Value) (L : List Au) (id : Int) (w0 w : World) (hb0 : Below w0.heap.size w0 w) (hv : AL v L w0) (hbn : bnd L) (hr : rightA L = 0) :
    Calls Tryz.prog 91 #[v, .int .i64 id] w fun e w' => ∃ s t, e = .returned (.tuple #[AV ((getA L id).getD au0) s t, .bool (getA L id).isSome]) ∧ (∀ W, Kp w0 w w' W → AN ((getA L id).getD au0) s t W) ∧ Below w.heap.size w w' := by
  obtain ⟨Q, hQ⟩ : ∃ Q, (fun (e : Ending) (w' : World) => ∃ s t, e = .returned (.tuple #[AV ((getA L id).getD au0) s t, .bool (getA L id).isSome]) ∧ (∀ W, Kp w0 w w' W → AN ((getA L id).getD au0) s t W) ∧ Below w.heap.size w w') = Q := ⟨_, rfl⟩
  rw [hQ]
  obtain ⟨hbl, hbz⟩ := bnd_len hbn
  have hasc := right_asc L hr
  obtain ⟨W0, hW0⟩ : ∃ W, w.alloc (.cells #[.int .i64 0, .int .i64 0, .string ⟨#[]⟩, .slice none 0 0, .slice none 0 0] 56) = W := ⟨_, rfl⟩
  have b0 : Below w.heap.size w W0 := by rw [← hW0]; exact (Below.refl _ _).alloc (Nat.le_refl _) _
  have hR0 : W0.heap[w.heap.size]? = some (.cells #[.int .i64 0, .int .i64 0, .string ⟨#[]⟩, .slice none 0 0, .slice none 0 0] 56 (0, 0)) := by rw [← hW0]; exact heap_alloc_new w _
  have hlt0 : w.heap.size < W0.heap.size := by rw [← hW0]; simp
  have HB0 := Lib.hid b0
  have HR0 := Lib.hid hR0
  have HV := Lib.hid ((hv.after hb0).after b0)
  have cP := Lib.hid (place_any v L id W0 HV.out hasc (by omega))
  have HC := Lib.hid (fun (a : Au) (s t : Value) (W : World) (h : AN a s t W) (h1 : a.see.length ≤ 100000) (h2 : a.above.length ≤ 100000) => clone_any a s t W h h1 h2)
  have HZ := Lib.hid hbz
  have HW0 := Lib.hid hW0
  cases hg : getA L id with
  | none =>
    rw [hg] at hQ cP
    have HQ : RowKit.Hid (∀ W, Below w.heap.size w W → Q (.returned (.tuple #[.agg #[.int .i64 0, .int .i64 0, .string ⟨#[]⟩, .slice none 0 0, .slice none 0 0], .bool false])) W) := by
      rw [← hQ]
      exact fun W h => ⟨.slice none 0 0, .slice none 0 0, rfl, fun V _ => ⟨⟨none, 0, rfl, Nat.le_refl _, Nat.zero_le _, fun _ => rfl, fun i hi => by cases hi⟩, IL.nil _⟩, h⟩
    obtain ⟨va, vc, rfl, hc1, hc2⟩ := hv.length
    obtain ⟨k, hk⟩ : ∃ k, plcA L id = k := ⟨_, rfl⟩
    rw [hk] at cP
    have hb : (Option.isSome (none : Option Au)) = false := rfl
    rw [hb] at cP
    clear hQ hv HV hg hW0 hR0 b0 hk hb HC HZ hbz hbn hr hasc
    generalize L.length = n at *
    go_enter Tryz.func91, Tryz.ntmps91
    go_upto_region 1 with fail
    rw [HW0.out]
    clear HW0
    go_wp2_with fail
    refine cP.out.mono ?_
    rintro e w2 ⟨rfl, hb2⟩
    have hR2 := (hb2.block _ hlt0).trans HR0.out
    have hbx := HB0.out.trans (hb2.mono HB0.out.size)
    have hres := au_set5 (x0 := .int .i64 0) (x1 := .int .i64 0) (x2 := .string ⟨#[]⟩) (x3 := .slice none 0 0) (x4 := .slice none 0 0) hR2
    have hfin := HQ.out _ (au_below (x0 := .int .i64 0) (x1 := .int .i64 0) (x2 := .string ⟨#[]⟩) (x3 := .slice none 0 0) (x4 := .slice none 0 0) (b := w.heap.size) hbx (Nat.le_refl _))
    unfold setA5 at hres hfin
    have Hres := Lib.hid hres
    have Hfin := Lib.hid hfin
    obtain ⟨⟨r0, r1, r2, r3, r4⟩, k0, k1, k2, k3, k4⟩ := acells hR2
    clear hres hfin hR2 hbx hb2
    go_wp2
    (try simp only [Exit.inBlock, Exit.then])
    refine bodyPost_ret (results_au rfl _ _ w.heap.size _ _ _ _ rfl Hres.out Tryz.underlying56 rfl (by kernel_rfl)) rfl ?_
    exact Hfin.out
  | some a =>
    obtain ⟨hkl, hka, hid⟩ := get_plc_eq L id hasc a hg
    rw [hg] at hQ cP
    have hmem : a ∈ L := (get_some L id a hg).1
    obtain ⟨k, hk⟩ : ∃ k, plcA L id = k := ⟨_, rfl⟩
    rw [hk] at cP hkl hka
    have HQ : RowKit.Hid (∀ s t W1 W, NR w.heap.size s a.see W1 → IR w.heap.size t a.above W1 → Below w.heap.size w W → (∀ i, w.heap.size < i → W.heap[i]? = W1.heap[i]?) → (∀ g, s.ownBlock = some g → w.heap.size < g ∧ g < W.heap.size) → (∀ g, t.ownBlock = some g → w.heap.size < g ∧ g < W.heap.size) → Q (.returned (.tuple #[.agg #[.int .i64 a.id, .int .i64 a.kind, .string (S a.heading), s, t], .bool true])) W) := by
      rw [← hQ]
      intro s t W1 W h1 h2 h3 h4 h5 h6
      refine ⟨s, t, rfl, fun V hV => ?_, h3⟩
      have keep : ∀ {e n : Nat} {u : Value} {xs : List Value}, (∀ g, u.ownBlock = some g → w.heap.size < g ∧ g < W.heap.size) → W1.ownsRow w.heap.size e 1 u n xs → V.ownsRow w.heap.size e 1 u n xs := by
        intro e n u xs hu h
        refine ⟨h.1, ?_⟩
        rcases h.2 with hn | ⟨g, cap, cur, rfl, hB', hg', rest⟩
        · exact .inl hn
        · obtain ⟨q1, q2⟩ := hu g rfl
          exact .inr ⟨g, cap, cur, rfl, hB', ((hV.2.1 g (by omega) q2).trans (h4 g q1)).trans hg', rest⟩
      exact ⟨NR.bl (B := w.heap.size) (keep h5 h1), IR.il (B := w.heap.size) (keep h6 h2)⟩
    obtain ⟨va, vc, rfl, hc1, hc2⟩ := hv.length
    obtain ⟨n, hn⟩ : ∃ n, L.length = n := ⟨_, rfl⟩
    have HN := Lib.hid hn
    rw [hn] at HV hkl cP hc1 ⊢
    have hb : (some a).isSome = true := rfl
    rw [hb] at cP
    have HZ2 := Lib.hid (HZ.out a hmem)
    have HKa := Lib.hid hka
    have i1 : (0 : Int) ≤ (k : Int) := by omega
    have i2 : (k : Int) < (n : Int) := by omega
    clear hQ hv hg hW0 hR0 b0 hk hb HZ hbz hbn hr hasc hka hn hmem hid
    go_enter Tryz.func91, Tryz.ntmps91
    go_upto_region 1 with fail
    rw [HW0.out]
    clear HW0
    go_wp2_with fail
    refine cP.out.mono ?_
    rintro e w2 ⟨rfl, hb2⟩
    obtain ⟨g, o, cap', s, t, he, hg, c0, c1, c2, c3, c4, hq⟩ := (HV.out.after hb2).at k (by rw [HN.out]; exact hkl)
    obtain ⟨rfl, -, hcp⟩ := Value.slice.inj he
    rw [HKa.out] at c0 c1 c2 hq
    obtain ⟨as2, cs2, hs2, -, -⟩ := hq.1.length
    obtain ⟨at2, ct2, ht2, -⟩ := hq.2
    have cC := Lib.hid (HC.out a s t w2 hq HZ2.out.1 HZ2.out.2)
    unfold AV at cC
    have HB2 := Lib.hid hb2
    subst hs2 ht2
    clear he hcp hq hb2
    go_wp2_with fail
    refine cC.out.mono ?_
    rintro e w6 ⟨s', t', rfl, hs', ht', hb6⟩
    have hb06 := HB2.out.trans (hb6.mono HB2.out.size)
    have hR6 := (hb06.block _ hlt0).trans HR0.out
    have hbx := HB0.out.trans (hb06.mono HB0.out.size)
    have hlt2 : w.heap.size < w2.heap.size := Nat.lt_of_lt_of_le hlt0 HB2.out.size
    have hres := au_set5 (x0 := .int .i64 a.id) (x1 := .int .i64 a.kind) (x2 := .string (S a.heading)) (x3 := s') (x4 := t') hR6
    have hsz5 : (setA5 w6 w.heap.size (.int .i64 a.id) (.int .i64 a.kind) (.string (S a.heading)) s' t').heap.size = w6.heap.size := by simp [setA5, World.setCell]
    have hfin := HQ.out s' t' w6 (setA5 w6 w.heap.size (.int .i64 a.id) (.int .i64 a.kind) (.string (S a.heading)) s' t') (hs'.base (Nat.le_of_lt hlt2)) (ht'.base (Nat.le_of_lt hlt2)) (au_below hbx (Nat.le_refl _))
      (fun i hi => by unfold setA5; rw [Below.heap_setCell _ _ _ i (Nat.ne_of_gt hi), Below.heap_setCell _ _ _ i (Nat.ne_of_gt hi), Below.heap_setCell _ _ _ i (Nat.ne_of_gt hi), Below.heap_setCell _ _ _ i (Nat.ne_of_gt hi), Below.heap_setCell _ _ _ i (Nat.ne_of_gt hi)])
      (fun g hg => ⟨Nat.lt_of_lt_of_le hlt2 (hs'.lt g hg).1, by rw [hsz5]; exact (hs'.lt g hg).2⟩)
      (fun g hg => ⟨Nat.lt_of_lt_of_le hlt2 (ht'.lt g hg).1, by rw [hsz5]; exact (ht'.lt g hg).2⟩)
    obtain ⟨as6, cs6, rfl, -, -⟩ := own_form13 hs'
    obtain ⟨at6, ct6, rfl, -, -⟩ := own_form13 ht'
    unfold setA5 at hres hfin
    have Hres := Lib.hid hres
    have Hfin := Lib.hid hfin
    obtain ⟨⟨r0, r1, r2, r3, r4⟩, k0, k1, k2, k3, k4⟩ := acells hR6
    clear hres hfin hR6 hbx hb06 hb6 hs' ht' hsz5 c0 c1 c2 c3 c4
    go_wp2
    (try simp only [Exit.inBlock, Exit.then])
    refine bodyPost_ret (results_au rfl _ _ w.heap.size _ _ _ _ rfl Hres.out Tryz.underlying56 rfl (by kernel_rfl)) rfl ?_
    exact Hfin.out
end

section
open Go.RowKit Go.PlainAid
def SP.bl13 (L : List (List UInt8)) : SP := ⟨fun v w => BL v L w, fun _ _ _ h hb => h.after hb⟩
/-! libraryref01.Join, as libraryref12.Glue. -/
theorem parts_max13 (l : List UInt8) (h : validT l = true) : ∀ x ∈ partsX l, x.length ≤ 8 * l.length := by
  intro x hx
  obtain ⟨c1, _, rfl, h3⟩ := parts_len l h x hx
  have := enc_le c1
  omega
theorem firstI_at (L : List Int) (k : Nat) (hk : k < L.length) (h : ∀ j, j < k → L.getD j 0 = 0) (h0 : L.getD k 0 ≠ 0) : firstI L = L.getD k 0 := by
  unfold firstI
  have e : L.find? (fun e => e != 0) = some (L.getD k 0) := by
    rw [List.find?_eq_some_iff_getElem]
    refine ⟨by simpa using h0, k, hk, by simp [List.getD_eq_getElem?_getD, List.getElem?_eq_getElem hk], fun j hj => ?_⟩
    have := h j hj
    rw [List.getD_eq_getElem?_getD, List.getElem?_eq_getElem (by omega)] at this
    simpa using this
  rw [e]
  rfl
theorem firstI_zero (L : List Int) (h : ∀ j, j < L.length → L.getD j 0 = 0) : firstI L = 0 := by
  unfold firstI
  have e : L.find? (fun e => e != 0) = none := by
    rw [List.find?_eq_none]
    intro x hx
    obtain ⟨j, hj, rfl⟩ := List.mem_iff_getElem.1 hx
    have := h j hj
    rw [List.getD_eq_getElem?_getD, List.getElem?_eq_getElem hj] at this
    simpa using this
  rw [e]
  rfl
theorem map_getD (f : List UInt8 → Int) (L : List (List UInt8)) (j : Nat) (h : j < L.length) : (L.map f).getD j 0 = f (L.getD j []) := by
  simp [List.getD_eq_getElem?_getD, List.getElem?_eq_getElem h]
/-- Is a heading no text of its form? -/
def badH (kind : Int) (x : List UInt8) : Bool := !validT x || (!decide (cleanX x = x) || (decide (normX x = []) || (decide (kind = 3) && !decide (gluX dd (partsX x) = x))))
theorem hdE_eq (kind : Int) (x : List UInt8) : hdE kind x = if badH kind x = true then 3 else if 200 < x.length ∨ 4 < (partsX x).length then 4 else 0 := by
  unfold hdE
  have e : (validT x = false ∨ cleanX x ≠ x ∨ normX x = [] ∨ (kind = 3 ∧ gluX dd (partsX x) ≠ x)) ↔ badH kind x = true := by
    unfold badH
    simp [Bool.or_eq_true, Bool.and_eq_true]
  by_cases h : badH kind x = true
  · rw [if_pos (e.2 h), if_pos h]
  · rw [if_neg (fun g => h (e.1 g)), if_neg h]
theorem shapeI_kind (a : Au) (h : a.kind < 1 ∨ 4 < a.kind) : shapeI a = 1 := by
  unfold shapeI
  rw [if_pos h]
theorem shapeI_hd (a : Au) (h : ¬ (a.kind < 1 ∨ 4 < a.kind)) (k : Nat) (hk : k < (hdsX a).length) (hj : ∀ j, j < k → hdE a.kind ((hdsX a).getD j []) = 0) (h0 : hdE a.kind ((hdsX a).getD k []) ≠ 0) : shapeI a = hdE a.kind ((hdsX a).getD k []) := by
  have e := firstI_at ((hdsX a).map (hdE a.kind)) k (by rw [List.length_map]; exact hk) (fun j hj2 => by rw [map_getD _ _ j (by omega)]; exact hj j hj2) (by rw [map_getD _ _ k hk]; exact h0)
  rw [map_getD _ _ k hk] at e
  unfold shapeI
  rw [if_neg h, e, if_pos h0]
theorem shapeI_end (a : Au) (h : ¬ (a.kind < 1 ∨ 4 < a.kind)) (hj : ∀ j, j < (hdsX a).length → hdE a.kind ((hdsX a).getD j []) = 0) : shapeI a = if 8 < a.see.length then 13 else 0 := by
  have e := firstI_zero ((hdsX a).map (hdE a.kind)) (fun j hj2 => by
    rw [List.length_map] at hj2
    rw [map_getD _ _ j hj2]; exact hj j hj2)
  unfold shapeI
  rw [if_neg h, e, if_neg (fun g => g rfl)]
end

section
open Go.RowKit Go.PlainAid
theorem hdE_bad (kind : Int) (x : List UInt8) (h : badH kind x = true) : hdE kind x = 3 := by rw [hdE_eq, if_pos h]
theorem hdE_long (kind : Int) (x : List UInt8) (h : badH kind x = false) (h2 : 200 < x.length ∨ 4 < (partsX x).length) : hdE kind x = 4 := by rw [hdE_eq, if_neg (by rw [h]; decide), if_pos h2]
theorem hdE_ok (kind : Int) (x : List UInt8) (h : badH kind x = false) (h2 : ¬ (200 < x.length ∨ 4 < (partsX x).length)) : hdE kind x = 0 := by rw [hdE_eq, if_neg (by rw [h]; decide), if_neg h2]
end

end Go.Proofs.YthjdopnoophigaaGreatDoor
