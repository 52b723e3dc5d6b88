/- Merged: FR13, FS13, QC13. -/
import Derived.Test.YtmcolapcmjdoeaaGreatDoorQ21
import Derived.Laws.MakeOwn
namespace Go.Proofs.YtmcolapcmjdoeaaGreatDoor

section
open Go.RowKit Go.PlainAid
abbrev Ent : Type := Au × Value × Value
def cellsU (x : Ent) : List Value := [.int .i64 x.1.id, .int .i64 x.1.kind, .string (S x.1.heading), x.2.1, x.2.2]
def nilV : Value := .slice none 0 0
def ent0 : Ent := (au0, nilV, nilV)
theorem cellsU_len : ∀ F : List Ent, (F.flatMap cellsU).length = F.length * 5
  | [] => rfl
  | x :: r => by
    rw [List.flatMap_cons, List.length_append, cellsU_len r, List.length_cons]
    show 5 + r.length * 5 = _
    omega
theorem cells_mid (F : List Ent) (i : Nat) (x : Ent) (hi : F[i]? = some x) : F.flatMap cellsU = (F.take i).flatMap cellsU ++ (cellsU x ++ (F.drop (i + 1)).flatMap cellsU) ∧ ((F.take i).flatMap cellsU).length = i * 5 := by
  obtain ⟨h1, h2⟩ := List.getElem?_eq_some_iff.1 hi
  constructor
  · conv => lhs; rw [← List.take_append_drop i F, List.flatMap_append, List.drop_eq_getElem_cons h1, List.flatMap_cons, h2]
  · rw [cellsU_len, List.length_take, Nat.min_eq_left (by omega)]
theorem cells_at (F : List Ent) (i : Nat) (x : Ent) (hi : F[i]? = some x) (k : Nat) (hk : k < 5) : (F.flatMap cellsU)[i * 5 + k]? = (cellsU x)[k]? := by
  obtain ⟨h1, h2⟩ := cells_mid F i x hi
  rw [h1, List.getElem?_append_right (by omega), h2, show i * 5 + k - i * 5 = k by omega, List.getElem?_append_left (by show k < 5; exact hk)]
theorem set_mid {α : Type} (A C : List α) (b : List α) (m k : Nat) (u : α) (hm : A.length = m) (hk : k < b.length) : (A ++ (b ++ C)).set (m + k) u = A ++ (b.set k u ++ C) := by
  subst hm
  rw [List.set_append_right _ _ (by omega), show A.length + k - A.length = k by omega, List.set_append_left _ _ hk]
theorem ent_set (F : List Ent) (i : Nat) (x y : Ent) (hi : F[i]? = some x) : (F.set i y).flatMap cellsU = (F.take i).flatMap cellsU ++ (cellsU y ++ (F.drop (i + 1)).flatMap cellsU) := by
  obtain ⟨h1, _⟩ := List.getElem?_eq_some_iff.1 hi
  rw [List.set_eq_take_append_cons_drop, if_pos h1, List.flatMap_append, List.flatMap_cons]
theorem made_ents (n : Nat) : (madeCells (Value.agg #[.int .i64 0, .int .i64 0, .string ⟨#[]⟩, .slice none 0 0, .slice none 0 0]).cells (n * 5)).toList = (List.replicate n ent0).flatMap cellsU := by
  unfold madeCells
  rw [Array.toList_map, Array.toList_range]
  induction n with
  | zero => rfl
  | succ n ih =>
    rw [Nat.succ_mul, List.range_add, List.map_append, ih, List.replicate_succ', List.flatMap_append]
    congr 1
    rw [List.map_map]
    have h : ∀ k, k < 5 → (n * 5 + k) % 5 = k := fun k hk => by omega
    have e : (Value.agg #[.int .i64 0, .int .i64 0, .string ⟨#[]⟩, .slice none 0 0, .slice none 0 0]).cells = #[.int .i64 0, .int .i64 0, .string ⟨#[]⟩, .slice none 0 0, .slice none 0 0] := rfl
    rw [e]
    show List.map _ [0, 1, 2, 3, 4] = _
    simp only [List.map_cons, List.map_nil, Function.comp, List.size_toArray, List.length_cons, List.length_nil, Nat.reduceAdd, h 0 (by omega), h 1 (by omega), h 2 (by omega), h 3 (by omega), h 4 (by omega)]
    rfl
theorem infoAu : (Tryz.prog.info? 31).map (fun i => (i.zero, i.size, i.bytes)) = some (some (.agg #[.int .i64 0, .int .i64 0, .string ⟨#[]⟩, .slice none 0 0, .slice none 0 0]), 5, 80) := by kernel_rfl
theorem info_au : ∃ i0, Tryz.prog.info? 31 = some i0 ∧ i0.zero = some (.agg #[.int .i64 0, .int .i64 0, .string ⟨#[]⟩, .slice none 0 0, .slice none 0 0]) ∧ i0.size = 5 ∧ i0.bytes = 80 := by
  obtain ⟨i0, h0, h2⟩ := Option.map_eq_some_iff.1 infoAu
  simp only [Prod.mk.injEq] at h2
  exact ⟨i0, h0, h2.1, h2.2.1, h2.2.2⟩

/-- Two rows of the call's own don't lie in one block. -/
def Apt (u v : Value) : Prop := u.ownBlock = none ∨ u.ownBlock ≠ v.ownBlock
theorem Apt.symm {u v : Value} (h : Apt u v) : Apt v u := by
  rcases h with h | h
  · cases hv : v.ownBlock with
    | none => exact .inl hv
    | some k => exact .inr (by rw [h, hv]; exact fun e => by cases e)
  · cases hv : v.ownBlock with
    | none => exact .inl hv
    | some k => exact .inr (by rw [hv] at h; rw [hv]; exact fun e => h e.symm)
theorem Apt.nilR (u : Value) : Apt u nilV := by
  cases hu : u.ownBlock with
  | none => exact .inl hu
  | some k => exact .inr (by rw [hu]; exact fun e => by cases e)
theorem Apt.nilL (u : Value) : Apt nilV u := .inl rfl

/-- A file of the call's own. -/
structure FR (B : Nat) (v : Value) (F : List Ent) (w : World) : Prop where
  row : w.ownsRow B 31 5 v F.length (F.flatMap cellsU)
  see : ∀ x ∈ F, NR B x.2.1 x.1.see w
  abv : ∀ x ∈ F, IR B x.2.2 x.1.above w
  sap : F.Pairwise fun x y => Apt x.2.1 y.2.1
  aap : F.Pairwise fun x y => Apt x.2.2 y.2.2
theorem FR.after {B : Nat} {v : Value} {F : List Ent} {w w' : World} (h : FR B v F w) (hb : Below w.heap.size w w') : FR B v F w' :=
  ⟨own_after h.row hb, fun x hx => (h.see x hx).after hb, fun x hx => (h.abv x hx).after hb, h.sap, h.aap⟩
theorem own_kept {B e size n : Nat} {v : Value} {xs : List Value} {w W : World} (h : w.ownsRow B e size v n xs) (hk : ∀ i, B ≤ i → i < w.heap.size → W.heap[i]? = w.heap[i]?) : W.ownsRow B e size v n xs := by
  refine ⟨h.1, ?_⟩
  rcases h.2 with hn | ⟨g, cap, cur, hv, hB', hg, rest⟩
  · exact .inl hn
  · have hlt : g < w.heap.size := (Array.getElem?_eq_some_iff.1 hg).1
    exact .inr ⟨g, cap, cur, hv, hB', (hk g hB' hlt).trans hg, rest⟩
/-- It stays where only what it doesn't hold is changed. -/
theorem FR.kept {B : Nat} {v : Value} {F : List Ent} {w W : World} (h : FR B v F w) (hk : ∀ i, B ≤ i → i < w.heap.size → W.heap[i]? = w.heap[i]?) : FR B v F W :=
  ⟨own_kept h.row hk, fun x hx => own_kept (h.see x hx) hk, fun x hx => own_kept (h.abv x hx) hk, h.sap, h.aap⟩
theorem FR.base {B B' : Nat} {v : Value} {F : List Ent} {w : World} (h : FR B' v F w) (hB : B ≤ B') : FR B v F w := by
  refine ⟨⟨h.row.1, ?_⟩, fun x hx => (h.see x hx).base hB, fun x hx => (h.abv x hx).base hB, h.sap, h.aap⟩
  rcases h.row.2 with hn | ⟨g, cap, cur, hv, hB', rest⟩
  · exact .inl hn
  · exact .inr ⟨g, cap, cur, hv, Nat.le_trans hB hB', rest⟩
theorem add13 (g o j : Nat) : (⟨g, o, none⟩ : Addr).add j = ⟨g, o + j, none⟩ := by unfold Addr.add; split <;> simp_all
theorem FR.open {B : Nat} {v : Value} {F : List Ent} {w : World} (h : FR B v F w) (i : Nat) (x : Ent) (hi : F[i]? = some x) :
    ∃ g cap, v = .slice (some ⟨g, 0, none⟩) F.length cap ∧ B ≤ g ∧ g < w.heap.size ∧ F.length ≤ cap ∧ cap ≤ maxLen ∧
    (w.cell? ⟨g, i * 5, none⟩ = some (.int .i64 x.1.id) ∧ w.cell? ⟨g, i * 5 + 1, none⟩ = some (.int .i64 x.1.kind) ∧ w.cell? ⟨g, i * 5 + 2, none⟩ = some (.string (S x.1.heading)) ∧ w.cell? ⟨g, i * 5 + 3, none⟩ = some x.2.1 ∧ w.cell? ⟨g, i * 5 + 4, none⟩ = some x.2.2) ∧
    (∀ p, w.frozen? ⟨g, p, none⟩ = false) := by
  obtain ⟨hlt, _⟩ := List.getElem?_eq_some_iff.1 hi
  rcases h.row.2 with ⟨_, h0⟩ | ⟨g, cap, cur, rfl, hb, hg, hc, hm, hs, ht⟩
  · omega
  · have hx := World.ownsRow.cells h.row (g := g) rfl
    have hcell : ∀ k u, k < 5 → (cellsU x)[k]? = some u → w.cell? ⟨g, i * 5 + k, none⟩ = some u := by
      intro k u hk hu
      have := hx (i * 5 + k) u (by rw [cells_at F i x hi k hk]; exact hu)
      rwa [add13, Nat.zero_add] at this
    exact ⟨g, cap, rfl, hb, (Array.getElem?_eq_some_iff.1 hg).1, hc, hm, ⟨hcell 0 _ (by omega) rfl, hcell 1 _ (by omega) rfl, hcell 2 _ (by omega) rfl, hcell 3 _ (by omega) rfl, hcell 4 _ (by omega) rfl⟩, fun p => Lib.frozen_of_heap hg p⟩
theorem FR.form {B : Nat} {v : Value} {F : List Ent} {w : World} (h : FR B v F w) : ∃ a cap, v = .slice a F.length cap ∧ F.length ≤ cap ∧ cap ≤ maxLen := own_form13 h.row
theorem FR.al {B : Nat} {v : Value} {F : List Ent} {w : World} (h : FR B v F w) : AL v (F.map (·.1)) w := by
  obtain ⟨a, cap, rfl, hc, hm⟩ := h.form
  have hl : (F.map (·.1)).length = F.length := List.length_map _
  refine ⟨a, cap, by rw [hl], by rw [hl]; exact hc, hm, ?_, fun i hi => ?_⟩
  · intro ha
    subst ha
    rcases h.row.2 with ⟨e, _⟩ | ⟨g, cap', cur, e, _⟩
    · exact (Value.slice.inj e).2.2
    · cases (Value.slice.inj e).1
  · rw [hl] at hi
    obtain ⟨x, hx⟩ : ∃ x, F[i]? = some x := ⟨F[i], List.getElem?_eq_getElem hi⟩
    have hmem : x ∈ F := List.mem_of_getElem? hx
    obtain ⟨g, cap', e, hb, hg, _, _, ⟨c0, c1, c2, c3, c4⟩, _⟩ := h.open i x hx
    have hd : (F.map (·.1)).getD i au0 = x.1 := by
      rw [List.getD_eq_getElem?_getD, List.getElem?_map, hx]
      rfl
    rw [hd]
    exact ⟨g, 0, x.2.1, x.2.2, (Value.slice.inj e).1, hg, by rw [Nat.zero_add]; exact c0, by rw [Nat.zero_add]; exact c1, by rw [Nat.zero_add]; exact c2, by rw [Nat.zero_add]; exact c3, by rw [Nat.zero_add]; exact c4, (h.see x hmem).bl, (h.abv x hmem).il⟩

/-- What has changed is one cell of the file's own row. -/
theorem row_set {B : Nat} {v : Value} {w : World} {n : Nat} {xs : List Value} {g cap : Nat} (h : w.ownsRow B 31 5 v n xs) (hv : v = .slice (some ⟨g, 0, none⟩) n cap) (p : Nat) (_hp : p < n * 5) (u : Value) :
    (w.setCell ⟨g, p, none⟩ u).ownsRow B 31 5 v n (xs.set p u) := by
  refine ⟨by rw [List.length_set]; exact h.1, ?_⟩
  rcases h.2 with ⟨hn, h0⟩ | ⟨g', cap', cur, hv', hb, hg, hc, hm, hs, ht⟩
  · rw [hv] at hn
    cases hn
  · rw [hv] at hv'
    obtain ⟨h1, _, h3⟩ := Value.slice.inj hv'
    obtain rfl : g = g' := by simpa using h1
    refine .inr ⟨g, cap', cur.setIfInBounds p u, by rw [hv, h3], hb, ?_, hc, hm, by simpa using hs, ?_⟩
    · simp [World.setCell, Array.getElem?_modify, hg]
    · rw [Array.toList_setIfInBounds, List.take_set, ht]
theorem apt_set {F : List Ent} {f : Ent → Value} (h : F.Pairwise fun x y => Apt (f x) (f y)) (i : Nat) (y : Ent) (hy : ∀ j x, j ≠ i → F[j]? = some x → Apt (f y) (f x)) : (F.set i y).Pairwise fun x y => Apt (f x) (f y) := by
  rw [List.pairwise_iff_getElem] at h ⊢
  intro a b ha hb hab
  rw [List.length_set] at ha hb
  rw [List.getElem_set, List.getElem_set]
  by_cases h1 : i = a
  · rw [if_pos h1, if_neg (by omega)]
    exact hy b _ (by omega) (List.getElem?_eq_getElem hb)
  · rw [if_neg h1]
    by_cases h2 : i = b
    · rw [if_pos h2]
      exact (hy a _ (by omega) (List.getElem?_eq_getElem ha)).symm
    · rw [if_neg h2]
      exact h a b ha hb hab
theorem mem_set13 {F : List Ent} {i : Nat} {y x : Ent} (h : x ∈ F.set i y) : x = y ∨ x ∈ F := by
  rcases List.mem_or_eq_of_mem_set h with h | h
  · exact .inr h
  · exact .inl h
theorem set_keeps13 {B n : Nat} {v : Value} {xs : List Value} {w : World} {g cap : Nat} {e : TypeId} (hne : e ≠ 31) (hr : w.ownsRow B e 1 v n xs) {F : List Ent} {vF : Value} (hF : FR B vF F w) (hv : vF = .slice (some ⟨g, 0, none⟩) F.length cap) (p : Nat) (u : Value) :
    (w.setCell ⟨g, p, none⟩ u).ownsRow B e 1 v n xs := by
  refine ⟨hr.1, ?_⟩
  rcases hr.2 with hn | ⟨g', cap', cur, hv', hb, hg, rest⟩
  · exact .inl hn
  · refine .inr ⟨g', cap', cur, hv', hb, ?_, rest⟩
    rw [Below.heap_setCell w _ u g' ?_]
    · exact hg
    · intro hgg
      rcases hF.row.2 with ⟨h0, _⟩ | ⟨g2, _, cur2, hv2, _, hg2, _⟩
      · rw [hv] at h0; cases h0
      · rw [hv] at hv2
        have : g = g2 := by simpa using (Value.slice.inj hv2).1
        subst this
        simp only at hgg
        subst hgg
        rw [hg] at hg2
        injection hg2 with hg2
        injection hg2 with _ h5 _
        exact hne h5
theorem ne_string : 9 ≠ 31 := by decide
theorem ne_int : 3 ≠ 31 := by decide
end

section
open Go.RowKit Go.PlainAid
theorem own_types {B1 B2 e1 e2 s1 s2 n m : Nat} {u v : Value} {xs ys : List Value} {w : World} (h1 : w.ownsRow B1 e1 s1 u n xs) (h2 : w.ownsRow B2 e2 s2 v m ys) (hne : e1 ≠ e2) : Apt u v := by
  rcases h1.2 with ⟨rfl, _⟩ | ⟨g, cap, cur, rfl, _, hg, _⟩
  · exact .inl rfl
  · rcases h2.2 with ⟨rfl, _⟩ | ⟨g', cap', cur', rfl, _, hg', _⟩
    · exact Apt.nilR _
    · refine .inr fun e => hne ?_
      have hgg : g = g' := by simpa [Value.ownBlock] using e
      subst hgg
      rw [hg] at hg'
      injection hg' with hg'
      injection hg' with _ h5 _
theorem ne_si : 9 ≠ 3 := by decide
theorem own_lt {B e s n k : Nat} {u : Value} {xs : List Value} {w : World} (h : w.ownsRow B e s u n xs) (hk : u.ownBlock = some k) : k < w.heap.size := (h.lt k hk).2
theorem apt_new {B e s n : Nat} {u v : Value} {xs : List Value} {w : World} (h : w.ownsRow B e s u n xs) {k : Nat} (hv : v.ownBlock = some k) (hk : w.heap.size ≤ k) : Apt v u := by
  refine .inr fun e => ?_
  have := own_lt h (k := k) (by rw [← e, hv])
  omega
theorem get_set {F : List Ent} {i : Nat} {y z : Ent} (_hi : i < F.length) (h : z ∈ F.set i y) : z = y ∨ ∃ j, j ≠ i ∧ F[j]? = some z := by
  obtain ⟨j, hj, e⟩ := List.mem_iff_getElem.1 h
  rw [List.getElem_set] at e
  by_cases hji : i = j
  · rw [if_pos hji] at e
    exact .inl e.symm
  · rw [if_neg hji] at e
    rw [List.length_set] at hj
    exact .inr ⟨j, fun h => hji h.symm, by rw [List.getElem?_eq_getElem hj, e]⟩
theorem pair_at {F : List Ent} {f : Ent → Value} (h : F.Pairwise fun x y => Apt (f x) (f y)) {i j : Nat} {x y : Ent} (hi : F[i]? = some x) (hj : F[j]? = some y) (hne : j ≠ i) : Apt (f x) (f y) := by
  obtain ⟨h1, rfl⟩ := List.getElem?_eq_some_iff.1 hi
  obtain ⟨h2, rfl⟩ := List.getElem?_eq_some_iff.1 hj
  rcases Nat.lt_or_gt_of_ne hne with h3 | h3
  · exact (List.pairwise_iff_getElem.1 h j i h2 h1 h3).symm
  · exact List.pairwise_iff_getElem.1 h i j h1 h2 h3
theorem set_one (F : List Ent) (i : Nat) (x y : Ent) (hi : F[i]? = some x) (k : Nat) (u : Value) (hk : k < 5) (hu : (cellsU x).set k u = cellsU y) : (F.flatMap cellsU).set (i * 5 + k) u = (F.set i y).flatMap cellsU := by
  obtain ⟨h1, h2⟩ := cells_mid F i x hi
  rw [h1, set_mid _ _ _ _ _ _ h2 (by show k < 5; exact hk), hu, ← ent_set F i x y hi]

/-- See of one authority has been changed in its row or in a new one, and is stored. -/
theorem FR.putSee {B : Nat} {F : List Ent} {w w' : World} {g cap : Nat} (h : FR B (.slice (some ⟨g, 0, none⟩) F.length cap) F w) (i : Nat) (x : Ent) (hi : F[i]? = some x) (hg : w.grownBy w' x.2.1.ownBlock) (s' : Value) (l : List (List UInt8)) (hs : NR B s' l w')
    (hb : s'.ownBlock = none ∨ s'.ownBlock = x.2.1.ownBlock ∨ ∃ k, s'.ownBlock = some k ∧ w.heap.size ≤ k) :
    FR B (.slice (some ⟨g, 0, none⟩) F.length cap) (F.set i ({ x.1 with see := l }, s', x.2.2)) (w'.setCell ⟨g, i * 5 + 3, none⟩ s') := by
  obtain ⟨hlt, _⟩ := List.getElem?_eq_some_iff.1 hi
  have hmx : x ∈ F := List.mem_of_getElem? hi
  have hrow := h.row.kept hg (own_types h.row (h.see x hmx) (fun e => ne_string e.symm))
  have keep : ∀ {e n : Nat} {v : Value} {xs : List Value}, e ≠ 31 → w'.ownsRow B e 1 v n xs → (w'.setCell ⟨g, i * 5 + 3, none⟩ s').ownsRow B e 1 v n xs := by
    intro e n v xs hne hr
    refine ⟨hr.1, ?_⟩
    rcases hr.2 with hn | ⟨g', cap', cur', hv', hb', hg', rest⟩
    · exact .inl hn
    · refine .inr ⟨g', cap', cur', hv', hb', ?_, rest⟩
      rw [Below.heap_setCell w' _ s' g' ?_]
      · exact hg'
      · intro hgg
        simp only at hgg
        subst hgg
        rcases hrow.2 with ⟨h0, _⟩ | ⟨g2, _, cur2, hv2, _, hg2, _⟩
        · cases h0
        · have : g' = g2 := by simpa using (Value.slice.inj hv2).1
          subst this
          rw [hg'] at hg2
          injection hg2 with hg2
          injection hg2 with _ h5 _
          exact hne h5
  refine ⟨?_, fun z hz => ?_, fun z hz => ?_, ?_, ?_⟩
  · have := row_set hrow rfl (i * 5 + 3) (by omega) s'
    rw [set_one F i x ({ x.1 with see := l }, s', x.2.2) hi 3 s' (by omega) rfl] at this
    rw [List.length_set]
    exact this
  · refine keep ne_string ?_
    rcases get_set hlt hz with rfl | ⟨j, hj, hjz⟩
    · exact hs
    · exact (h.see z (List.mem_of_getElem? hjz)).kept hg (pair_at h.sap hjz hi (Ne.symm hj))
  · refine keep ne_int ?_
    rcases get_set hlt hz with rfl | ⟨j, hj, hjz⟩
    · exact (h.abv x hmx).kept hg (own_types (h.abv x hmx) (h.see x hmx) (fun e => ne_si e.symm))
    · exact (h.abv z (List.mem_of_getElem? hjz)).kept hg (own_types (h.abv z (List.mem_of_getElem? hjz)) (h.see x hmx) (fun e => ne_si e.symm))
  · refine apt_set h.sap i _ fun j z hj hjz => ?_
    show Apt s' z.2.1
    rcases hb with hb | hb | ⟨k, hb, hk⟩
    · exact .inl hb
    · have := pair_at h.sap hi hjz hj
      unfold Apt at this ⊢
      rw [hb]
      exact this
    · exact apt_new (h.see z (List.mem_of_getElem? hjz)) hb hk
  · exact apt_set h.aap i _ fun j z hj hjz => (show Apt x.2.2 z.2.2 from pair_at h.aap hi hjz hj)
/-- Above of one authority has been changed in its row or in a new one, and is stored. -/
theorem FR.putAbv {B : Nat} {F : List Ent} {w w' : World} {g cap : Nat} (h : FR B (.slice (some ⟨g, 0, none⟩) F.length cap) F w) (i : Nat) (x : Ent) (hi : F[i]? = some x) (hg : w.grownBy w' x.2.2.ownBlock) (t' : Value) (l : List Int) (ht : IR B t' l w')
    (hb : t'.ownBlock = none ∨ t'.ownBlock = x.2.2.ownBlock ∨ ∃ k, t'.ownBlock = some k ∧ w.heap.size ≤ k) :
    FR B (.slice (some ⟨g, 0, none⟩) F.length cap) (F.set i ({ x.1 with above := l }, x.2.1, t')) (w'.setCell ⟨g, i * 5 + 4, none⟩ t') := by
  obtain ⟨hlt, _⟩ := List.getElem?_eq_some_iff.1 hi
  have hmx : x ∈ F := List.mem_of_getElem? hi
  have hrow := h.row.kept hg (own_types h.row (h.abv x hmx) (fun e => ne_int e.symm))
  have keep : ∀ {e n : Nat} {v : Value} {xs : List Value}, e ≠ 31 → w'.ownsRow B e 1 v n xs → (w'.setCell ⟨g, i * 5 + 4, none⟩ t').ownsRow B e 1 v n xs := by
    intro e n v xs hne hr
    refine ⟨hr.1, ?_⟩
    rcases hr.2 with hn | ⟨g', cap', cur', hv', hb', hg', rest⟩
    · exact .inl hn
    · refine .inr ⟨g', cap', cur', hv', hb', ?_, rest⟩
      rw [Below.heap_setCell w' _ t' g' ?_]
      · exact hg'
      · intro hgg
        simp only at hgg
        subst hgg
        rcases hrow.2 with ⟨h0, _⟩ | ⟨g2, _, cur2, hv2, _, hg2, _⟩
        · cases h0
        · have : g' = g2 := by simpa using (Value.slice.inj hv2).1
          subst this
          rw [hg'] at hg2
          injection hg2 with hg2
          injection hg2 with _ h5 _
          exact hne h5
  refine ⟨?_, fun z hz => ?_, fun z hz => ?_, ?_, ?_⟩
  · have := row_set hrow rfl (i * 5 + 4) (by omega) t'
    rw [set_one F i x ({ x.1 with above := l }, x.2.1, t') hi 4 t' (by omega) rfl] at this
    rw [List.length_set]
    exact this
  · refine keep ne_string ?_
    rcases get_set hlt hz with rfl | ⟨j, hj, hjz⟩
    · exact (h.see x hmx).kept hg (own_types (h.see x hmx) (h.abv x hmx) ne_si)
    · exact (h.see z (List.mem_of_getElem? hjz)).kept hg (own_types (h.see z (List.mem_of_getElem? hjz)) (h.abv x hmx) ne_si)
  · refine keep ne_int ?_
    rcases get_set hlt hz with rfl | ⟨j, hj, hjz⟩
    · exact ht
    · exact (h.abv z (List.mem_of_getElem? hjz)).kept hg (pair_at h.aap hjz hi (Ne.symm hj))
  · exact apt_set h.sap i _ fun j z hj hjz => (show Apt x.2.1 z.2.1 from pair_at h.sap hi hjz hj)
  · refine apt_set h.aap i _ fun j z hj hjz => ?_
    show Apt t' z.2.2
    rcases hb with hb | hb | ⟨k, hb, hk⟩
    · exact .inl hb
    · have := pair_at h.aap hi hjz hj
      unfold Apt at this ⊢
      rw [hb]
      exact this
    · exact apt_new (h.abv z (List.mem_of_getElem? hjz)) hb hk
/-- Another heading is stored. -/
theorem FR.putHead {B : Nat} {F : List Ent} {w : World} {g cap : Nat} (h : FR B (.slice (some ⟨g, 0, none⟩) F.length cap) F w) (i : Nat) (x : Ent) (hi : F[i]? = some x) (hd : List UInt8) :
    FR B (.slice (some ⟨g, 0, none⟩) F.length cap) (F.set i ({ x.1 with heading := hd }, x.2.1, x.2.2)) (w.setCell ⟨g, i * 5 + 2, none⟩ (.string (S hd))) := by
  obtain ⟨hlt, _⟩ := List.getElem?_eq_some_iff.1 hi
  have hmx : x ∈ F := List.mem_of_getElem? hi
  refine ⟨?_, fun z hz => ?_, fun z hz => ?_, ?_, ?_⟩
  · have := row_set h.row rfl (i * 5 + 2) (by omega) (.string (S hd))
    rw [set_one F i x ({ x.1 with heading := hd }, x.2.1, x.2.2) hi 2 (.string (S hd)) (by omega) rfl] at this
    rw [List.length_set]
    exact this
  · refine set_keeps13 ne_string ?_ h rfl _ _
    rcases get_set hlt hz with rfl | ⟨j, hj, hjz⟩
    · exact h.see x hmx
    · exact h.see z (List.mem_of_getElem? hjz)
  · refine set_keeps13 ne_int ?_ h rfl _ _
    rcases get_set hlt hz with rfl | ⟨j, hj, hjz⟩
    · exact h.abv x hmx
    · exact h.abv z (List.mem_of_getElem? hjz)
  · exact apt_set h.sap i _ fun j z hj hjz => (show Apt x.2.1 z.2.1 from pair_at h.sap hi hjz hj)
  · exact apt_set h.aap i _ fun j z hj hjz => (show Apt x.2.2 z.2.2 from pair_at h.aap hi hjz hj)
def setA5at (w : World) (g o : Nat) (x0 x1 x2 x3 x4 : Value) : World := ((((w.setCell ⟨g, o, none⟩ x0).setCell ⟨g, o + 1, none⟩ x1).setCell ⟨g, o + 2, none⟩ x2).setCell ⟨g, o + 3, none⟩ x3).setCell ⟨g, o + 4, none⟩ x4
theorem set5_below {n : Nat} {w W : World} {g o : Nat} {x0 x1 x2 x3 x4 : Value} (h : Below n w W) (hb : n ≤ g) : Below n w (setA5at W g o x0 x1 x2 x3 x4) :=
  ((((h.setCell (p := ⟨g, o, none⟩) hb x0).setCell (p := ⟨g, o + 1, none⟩) hb x1).setCell (p := ⟨g, o + 2, none⟩) hb x2).setCell (p := ⟨g, o + 3, none⟩) hb x3).setCell (p := ⟨g, o + 4, none⟩) hb x4
/-- Another authority is stored, with rows of its own. -/
theorem FR.put5 {B : Nat} {F : List Ent} {w : World} {g cap : Nat} (h : FR B (.slice (some ⟨g, 0, none⟩) F.length cap) F w) (i : Nat) (hi : i < F.length) (y : Ent) (hs : NR B y.2.1 y.1.see w) (ht : IR B y.2.2 y.1.above w)
    (hsa : ∀ x ∈ F, Apt y.2.1 x.2.1) (hta : ∀ x ∈ F, Apt y.2.2 x.2.2) :
    FR B (.slice (some ⟨g, 0, none⟩) F.length cap) (F.set i y) (setA5at w g (i * 5) (.int .i64 y.1.id) (.int .i64 y.1.kind) (.string (S y.1.heading)) y.2.1 y.2.2) := by
  obtain ⟨x, hx⟩ : ∃ x, F[i]? = some x := ⟨F[i], List.getElem?_eq_getElem hi⟩
  have h0 := row_set h.row rfl (i * 5) (by omega) (.int .i64 y.1.id)
  have h1 := row_set h0 rfl (i * 5 + 1) (by omega) (.int .i64 y.1.kind)
  have h2 := row_set h1 rfl (i * 5 + 2) (by omega) (.string (S y.1.heading))
  have h3 := row_set h2 rfl (i * 5 + 3) (by omega) y.2.1
  have h4 := row_set h3 rfl (i * 5 + 4) (by omega) y.2.2
  have keep : ∀ {e n : Nat} {v : Value} {xs : List Value}, e ≠ 31 → w.ownsRow B e 1 v n xs → (setA5at w g (i * 5) (.int .i64 y.1.id) (.int .i64 y.1.kind) (.string (S y.1.heading)) y.2.1 y.2.2).ownsRow B e 1 v n xs := by
    intro e n v xs hne hr
    refine ⟨hr.1, ?_⟩
    rcases hr.2 with hn | ⟨g', cap', cur', hv', hb', hg', rest⟩
    · exact .inl hn
    · refine .inr ⟨g', cap', cur', hv', hb', ?_, rest⟩
      have hgne : g' ≠ g := by
        intro hgg
        subst hgg
        rcases h.row.2 with ⟨h0, _⟩ | ⟨g2, _, cur2, hv2, _, hg2, _⟩
        · cases h0
        · have : g' = g2 := by simpa using (Value.slice.inj hv2).1
          subst this
          rw [hg'] at hg2
          injection hg2 with hg2
          injection hg2 with _ h5 _
          exact hne h5
      unfold setA5at
      rw [Below.heap_setCell _ _ _ g' hgne, Below.heap_setCell _ _ _ g' hgne, Below.heap_setCell _ _ _ g' hgne, Below.heap_setCell _ _ _ g' hgne, Below.heap_setCell _ _ _ g' hgne]
      exact hg'
  refine ⟨?_, fun z hz => ?_, fun z hz => ?_, ?_, ?_⟩
  · rw [List.length_set]
    have e : ((((((F.flatMap cellsU).set (i * 5) (.int .i64 y.1.id)).set (i * 5 + 1) (.int .i64 y.1.kind)).set (i * 5 + 2) (.string (S y.1.heading))).set (i * 5 + 3) y.2.1).set (i * 5 + 4) y.2.2) = (F.set i y).flatMap cellsU := by
      obtain ⟨m1, m2⟩ := cells_mid F i x hx
      have e0 := set_mid ((F.take i).flatMap cellsU) ((F.drop (i + 1)).flatMap cellsU) (cellsU x) (i * 5) 0 (.int .i64 y.1.id) m2 (by show 0 < 5; omega)
      simp only [Nat.add_zero] at e0
      rw [m1, e0, set_mid _ _ _ _ 1 _ m2 (by show 1 < 5; omega), set_mid _ _ _ _ 2 _ m2 (by show 2 < 5; omega), set_mid _ _ _ _ 3 _ m2 (by show 3 < 5; omega), set_mid _ _ _ _ 4 _ m2 (by show 4 < 5; omega), ent_set F i x y hx]
      rfl
    rw [e] at h4
    exact h4
  · refine keep ne_string ?_
    rcases get_set hi hz with rfl | ⟨j, hj, hjz⟩
    · exact hs
    · exact h.see z (List.mem_of_getElem? hjz)
  · refine keep ne_int ?_
    rcases get_set hi hz with rfl | ⟨j, hj, hjz⟩
    · exact ht
    · exact h.abv z (List.mem_of_getElem? hjz)
  · exact apt_set h.sap i _ fun j z hj hjz => hsa z (List.mem_of_getElem? hjz)
  · exact apt_set h.aap i _ fun j z hj hjz => hta z (List.mem_of_getElem? hjz)
end

section
open Go.RowKit Go.PlainAid
theorem FR.made (B : Nat) (v : Value) (n : Nat) (w : World) (h : w.ownsRow B 31 5 v n (madeCells (Value.agg #[.int .i64 0, .int .i64 0, .string ⟨#[]⟩, .slice none 0 0, .slice none 0 0]).cells (n * 5)).toList) : FR B v (List.replicate n ent0) w := by
  rw [made_ents] at h
  refine ⟨by rw [List.length_replicate]; exact h, fun x hx => ?_, fun x hx => ?_, ?_, ?_⟩
  · obtain ⟨_, rfl⟩ := List.mem_replicate.1 hx
    exact NR.none _ _
  · obtain ⟨_, rfl⟩ := List.mem_replicate.1 hx
    exact IR.zero _ _
  · exact List.pairwise_replicate.2 (.inr (Apt.nilL _))
  · exact List.pairwise_replicate.2 (.inr (Apt.nilL _))
theorem apt_fresh {B B' e e' s s' n m : Nat} {u v : Value} {xs ys : List Value} {w w' : World} (h1 : w'.ownsRow B' e s u n xs) (hB : w.heap.size ≤ B') (h2 : w.ownsRow B e' s' v m ys) : Apt u v := by
  cases hu : u.ownBlock with
  | none => exact .inl hu
  | some k => exact apt_new h2 hu (Nat.le_trans hB (h1.lt k hu).1)

set_option maxHeartbeats 16000000 in
set_option maxRecDepth 100000 in
theorem cloneAllN_any (v : Value) (L : List Au) (w : World) (hv : AL v L w) (hz : L.length ≤ 100000) (hzs : ∀ a ∈ L, a.see.length ≤ 100000 ∧ a.above.length ≤ 100000) :
    Calls Tryz.prog 45 #[v] w fun e w' => ∃ v' F, e = .returned v' ∧ FR w.heap.size v' F w' ∧ F.map (·.1) = L ∧ Below w.heap.size w w' ∧ v' ≠ .slice none 0 0 := by
  obtain ⟨Q, hQ⟩ : ∃ Q, (fun (e : Ending) (w' : World) => ∃ v' F, e = .returned v' ∧ FR w.heap.size v' F w' ∧ F.map (·.1) = L ∧ Below w.heap.size w w' ∧ v' ≠ .slice none 0 0) = Q := ⟨_, rfl⟩
  rw [hQ]
  have HQ : RowKit.Hid (∀ v' F W, FR w.heap.size v' F W → F.map (·.1) = L → Below w.heap.size w W → v' ≠ .slice none 0 0 → Q (.returned v') W) := by
    rw [← hQ]
    exact fun v' F W h1 h2 h3 h4 => ⟨v', F, rfl, h1, h2, h3, h4⟩
  have HV := Lib.hid hv
  obtain ⟨va, vc, rfl, hc1, hc2⟩ := hv.length
  obtain ⟨n, hn⟩ : ∃ n, L.length = n := ⟨_, rfl⟩
  have HN := Lib.hid hn
  rw [hn] at HV hc1 hz ⊢
  have HB := Lib.hid (Below.refl w.heap.size w)
  have HZ := Lib.hid hzs
  have HC := Lib.hid (fun (a : Au) (s t : Value) (W : World) (h : AN a s t W) (h1 : a.see.length ≤ 100000) (h2 : a.above.length ≤ 100000) => clone_any a s t W h h1 h2)
  obtain ⟨i0, hi, hz0, hz1, hz2⟩ := info_au
  have HI := Lib.hid hi
  have HI0 := Lib.hid hz0
  have HI1 := Lib.hid hz1
  have HI2 := Lib.hid hz2
  have hb2 : i0.bytes * n ≤ 281474976710656 := by rw [hz2]; omega
  have HI3 := Lib.hid hb2
  clear hQ hv hn hzs hi hz0 hz1 hz2 hb2
  go_enter Tryz.func45, Tryz.ntmps45
  go_wp2_with (at_make; refine wpList_make_full _ rfl _ _ 22 rfl w.heap.size 31 i0 _ 5 Tryz.underlying22 HI.out HI0.out HI1.out .i64 .i64 _ _ n rfl rfl rfl rfl HI3.out (by unfold maxLen; omega) (Nat.le_refl _) ?_; intro w1 hown1 hg1)
  have HF1 := Lib.hid (FR.made _ _ n w1 hown1)
  have HB1 : RowKit.Hid (Below w.heap.size w w1) := HB.out.grown hg1 (Nat.le_refl _) (fun j hj => by cases hj)
  clear hown1 hg1
  go_loopw [11] (fun s11 wr => ∃ (k : Nat) (F : List Ent), s11 = .int .i64 (k : Int) ∧ k ≤ n ∧ F.length = n ∧ RowKit.Hid (F.map (·.1) = L.take k ++ List.replicate (n - k) au0) ∧ RowKit.Hid (FR w.heap.size (.slice (some ⟨w.heap.size, 0, none⟩) n n) F wr) ∧ RowKit.Hid (Below w.heap.size w wr)) (fun s11 _ => n - (intOf s11).toNat)
  case atStart => exact ⟨0, List.replicate n ent0, rfl, Nat.zero_le _, List.length_replicate, (by show List.map _ _ = _; rw [List.map_replicate, List.take_zero]; rfl), HF1.out, HB1.out⟩
  case round =>
    obtain ⟨k, F, rfl, hk, hFn, HM, HF, HBr⟩ := hrel
    clear HF1 HB1
    by_cases hkn : k < n
    · have i1 : (0 : Int) ≤ (k : Int) := by omega
      have i2 : (k : Int) < (n : Int) := by omega
      obtain ⟨g, o, cap', s, t, he, hg, c0, c1, c2, c3, c4, hq⟩ := (HV.out.after HBr.out).at k (by rw [HN.out]; exact hkn)
      obtain ⟨rfl, -, hcp⟩ := Value.slice.inj he
      obtain ⟨a, ha⟩ : ∃ a, L.getD k au0 = a := ⟨_, rfl⟩
      have hmem : a ∈ L := by
        rw [← ha, getD_at13 L k (by rw [HN.out]; exact hkn)]
        exact List.getElem_mem _
      have hst : L.take (k + 1) = L.take k ++ [a] := by
        rw [List.take_succ_eq_append_getElem (by rw [HN.out]; exact hkn), ← getD_at13 L k (by rw [HN.out]; exact hkn), ha]
      rw [ha] at c0 c1 c2 hq
      obtain ⟨as2, cs2, hs2, -, -⟩ := hq.1.length
      obtain ⟨at2, ct2, ht2, -⟩ := hq.2
      obtain ⟨Wb, hWb⟩ : ∃ W, wr.alloc (.cells #[.int .i64 a.id, .int .i64 a.kind, .string (S a.heading), s, t] 31) = W := ⟨_, rfl⟩
      have bb : Below wr.heap.size wr Wb := by rw [← hWb]; exact (Below.refl _ _).alloc (Nat.le_refl _) _
      have hRb : Wb.heap[wr.heap.size]? = some (.cells #[.int .i64 a.id, .int .i64 a.kind, .string (S a.heading), s, t] 31 (0, 0)) := by rw [← hWb]; exact heap_alloc_new wr _
      obtain ⟨⟨y0, y1, y2, y3, y4⟩, -⟩ := acells hRb
      have cC := Lib.hid (HC.out a s t Wb (hq.after bb) (HZ.out a hmem).1 (HZ.out a hmem).2)
      have HFb := Lib.hid (HF.out.after bb)
      have HBb := Lib.hid (HBr.out.trans (bb.mono HBr.out.size))
      have HWb := Lib.hid hWb
      have HSt := Lib.hid hst
      have HM2 : RowKit.Hid (∀ y : Ent, y.1 = a → (F.set k y).map (·.1) = L.take (k + 1) ++ List.replicate (n - (k + 1)) au0) := by
        intro y hy
        rw [List.map_set, HM.out, HSt.out, hy]
        have hl : (L.take k).length = k := by rw [List.length_take, HN.out]; omega
        rw [List.set_append_right _ _ (by omega), hl, Nat.sub_self, show n - k = n - (k + 1) + 1 by omega, List.replicate_succ, List.set_cons_zero, List.append_assoc]
        rfl
      clear he hcp ha hq hWb bb hRb hst
      unfold AV at cC
      subst hs2 ht2
      go_upto_region 5 with fail
      rw [HWb.out]
      clear c0 c1 c2 c3 c4
      go_wp2_with fail
      refine cC.out.mono ?_
      rintro e w6 ⟨s', t', rfl, hs', ht', hb6⟩
      have HF6 := Lib.hid (HFb.out.after hb6)
      have HB6 := Lib.hid (HBb.out.trans (hb6.mono HBb.out.size))
      have HAs : RowKit.Hid (∀ x ∈ F, Apt s' x.2.1) := fun x hx => apt_fresh hs' (Nat.le_refl _) (HFb.out.see x hx)
      have HAt : RowKit.Hid (∀ x ∈ F, Apt t' x.2.2) := fun x hx => apt_fresh ht' (Nat.le_refl _) (HFb.out.abv x hx)
      have HS6 := Lib.hid (hs'.base HBb.out.size)
      have HT6 := Lib.hid (ht'.base HBb.out.size)
      obtain ⟨x, hx⟩ : ∃ x, F[k]? = some x := ⟨F[k]'(by rw [hFn]; exact hkn), List.getElem?_eq_getElem (by rw [hFn]; exact hkn)⟩
      obtain ⟨g6, cap6, e6, hg6, hl6, -, -, ⟨d0, d1, d2, d3, d4⟩, hfz⟩ := HF6.out.open k x hx
      obtain rfl : w.heap.size = g6 := by simpa using (Value.slice.inj e6).1
      have f0 := hfz (k * 5)
      have f1 := hfz (k * 5 + 1)
      have f2 := hfz (k * 5 + 2)
      have f3 := hfz (k * 5 + 3)
      have f4 := hfz (k * 5 + 4)
      obtain ⟨as6, cs6, rfl, -, -⟩ := own_form13 hs'
      obtain ⟨at6, ct6, rfl, -, -⟩ := own_form13 ht'
      have HP : RowKit.Hid (FR w.heap.size (.slice (some ⟨w.heap.size, 0, none⟩) n n) (F.set k (a, .slice as6 a.see.length cs6, .slice at6 a.above.length ct6)) (setA5at w6 w.heap.size (k * 5) (.int .i64 a.id) (.int .i64 a.kind) (.string (S a.heading)) (.slice as6 a.see.length cs6) (.slice at6 a.above.length ct6))) := by
        have h6 := HF6.out
        rw [← hFn] at h6
        have := h6.put5 k (by rw [hFn]; exact hkn) (a, .slice as6 a.see.length cs6, .slice at6 a.above.length ct6) HS6.out HT6.out HAs.out HAt.out
        rw [hFn] at this
        exact this
      have HBP : RowKit.Hid (Below w.heap.size w (setA5at w6 w.heap.size (k * 5) (.int .i64 a.id) (.int .i64 a.kind) (.string (S a.heading)) (.slice as6 a.see.length cs6) (.slice at6 a.above.length ct6))) := set5_below HB6.out (Nat.le_refl _)
      have HMP := Lib.hid (HM2.out (a, .slice as6 a.see.length cs6, .slice at6 a.above.length ct6) rfl)
      unfold setA5at at HP HBP
      clear hs' ht' hb6 e6 hg6 hl6 hfz hx
      go_wp2
      go_roundw
      case rel => exact ⟨k + 1, F.set k (a, .slice as6 a.see.length cs6, .slice at6 a.above.length ct6), by go_num, by omega, by rw [List.length_set]; exact hFn, HMP.out, HP.out, HBP.out⟩
      case measure => simp [intOf]; omega
    · obtain rfl : k = n := by omega
      have hM := HM.out
      rw [Nat.sub_self, List.replicate_zero, List.append_nil, List.take_of_length_le (by rw [HN.out]; exact Nat.le_refl _)] at hM
      have hfin := Lib.hid (HQ.out _ F _ HF.out hM HBr.out (fun h => by cases h))
      clear hM
      go_wp2
      first | exact hfin.out | (go_ret; exact hfin.out)
theorem cloneAll_any (v : Value) (L : List Au) (w : World) (hv : AL v L w) (hz : L.length ≤ 100000) (hzs : ∀ a ∈ L, a.see.length ≤ 100000 ∧ a.above.length ≤ 100000) :
    Calls Tryz.prog 45 #[v] w fun e w' => ∃ v' F, e = .returned v' ∧ FR w.heap.size v' F w' ∧ F.map (·.1) = L ∧ Below w.heap.size w w' :=
  (cloneAllN_any v L w hv hz hzs).mono (by
    rintro e w' ⟨v', F, h1, h2, h3, h4, _⟩
    exact ⟨v', F, h1, h2, h3, h4⟩)
end

end Go.Proofs.YtmcolapcmjdoeaaGreatDoor
