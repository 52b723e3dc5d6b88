/- Merged: Plain14B, Plain14D, R13G, R13H, TAllowed. -/
import Derived.Test.YthjdopnoophigaaGreatDoorQ02
import Derived.Test.YthjdopnoophigaaGreatDoorQ07
import Derived.Test.YthjdopnoophigaaGreatDoorQ10
import Derived.Test.YthjdopnoophigaaGreatDoorQ05
import Derived.Test.YthjdopnoophigaaGreatDoorQ04
import Derived.Test.YthjdopnoophigaaGreatDoorQ08
namespace Go.Proofs.YthjdopnoophigaaGreatDoor

section
/-- The codes of the headings of a kind. -/
def codesU (kind : Int) : List UInt8 := if kind = 1 then [97, 100] else if kind = 3 then [97, 120, 121, 122] else [97]
/-- The subfields of a heading. -/
def subsU (kind : Int) (h : List UInt8) : List (UInt8 × List UInt8) :=
  if kind = 1 ∧ (nameX h).2 = 0 ∧ (nameX h).1.2.2 ≠ [] then
    [(97, (nameX h).1.1 ++ if (nameX h).1.2.1 = [] then [] else cb ++ (nameX h).1.2.1), (100, (nameX h).1.2.2)]
  else if kind = 3 then (partsX h).zipIdx.map fun p => ((if p.2 = 0 then 97 else 120), p.1)
  else [(97, h)]
/-- The subfields of the field with another heading. -/
def putU (kind : Int) (L : List (UInt8 × List UInt8)) (h : List UInt8) : List (UInt8 × List UInt8) :=
  if kind = 0 then L else subsU kind h ++ L.filter fun s => decide (s.1 ∉ codesU kind)
def getU (L : List (UInt8 × List UInt8)) (c : UInt8) : Option (List UInt8) := (L.find? fun s => decide (s.1 = c)).map (·.2)
def plainU (L : List (UInt8 × List UInt8)) (C : List UInt8) : List (List UInt8) := (L.filter fun s => decide (s.1 ∈ C)).map (·.2)
/-- The heading of a field; `pl` is the plain text of its subfields a (layer 7). -/
def headU (kind : Int) (pl : List UInt8) (L : List (UInt8 × List UInt8)) : List UInt8 :=
  if kind = 1 then pl ++ (match getU L 100 with | some d => cb ++ d | none => [])
  else if kind = 2 ∨ kind = 4 then (getU L 97).getD []
  else if kind = 3 then gluX dd (plainU L (codesU 3))
  else []

/-! The document's examples (Put 3; heading 2). -/
theorem ex_put_subject : putU 3 [(97, [68, 111, 103, 115]), (120, [72, 105, 115, 116, 111, 114, 121])] [67, 97, 116, 115, 45, 45, 67, 97, 114, 101, 45, 45, 71, 101, 114, 109, 97, 110, 121] = [(97, [67, 97, 116, 115]), (120, [67, 97, 114, 101]), (120, [71, 101, 114, 109, 97, 110, 121])] := by decide +kernel
theorem ex_put_person : putU 1 [(97, [83, 109, 105, 116, 104, 44, 32, 65, 110, 110]), (100, [49, 57, 53, 48, 45]), (52, [97, 117, 116])] [76, 101, 101, 44, 32, 66, 111, 44, 32, 49, 57, 54, 48, 45] = [(97, [76, 101, 101, 44, 32, 66, 111]), (100, [49, 57, 54, 48, 45]), (52, [97, 117, 116])] := by decide +kernel
theorem ex_head_subject : headU 3 [] [(97, [68, 111, 103, 115]), (120, [72, 105, 115, 116, 111, 114, 121])] = [68, 111, 103, 115, 45, 45, 72, 105, 115, 116, 111, 114, 121] := by decide +kernel
theorem ex_head_person : headU 1 [83, 109, 105, 116, 104, 44, 32, 65, 110, 110] [(97, [83, 109, 105, 116, 104, 44, 32, 65, 110, 110]), (100, [49, 57, 53, 48, 45]), (52, [97, 117, 116])] = [83, 109, 105, 116, 104, 44, 32, 65, 110, 110, 44, 32, 49, 57, 53, 48, 45] := by decide +kernel
end

section
/-- The kind of a tag. -/
def kindX (t : List UInt8) : Int := (findR stdL t).1.auth
theorem std_auth : ∀ t ∈ stdL, 0 ≤ t.auth ∧ t.auth ≤ 4 := by decide
theorem kindX_range (t : List UInt8) : 0 ≤ kindX t ∧ kindX t ≤ 4 := by
  unfold kindX
  rcases findR_cases stdL t with ⟨_, h⟩ | ⟨_, h, _⟩
  · rw [h]
    decide
  · exact std_auth _ h
/-- The heading of subfields of a kind. -/
def headK (kd : Int) (L : List Sub) : List UInt8 :=
  if kd = 1 then plainL L [97] ++ (if (getL L 100).2 = true then cb ++ (getL L 100).1 else [])
  else if kd = 3 then gluX dd (allL L [97, 120, 121, 122])
  else if kd = 0 then [] else (getL L 97).1
def headX (f : Fld) : List UInt8 := headK (kindX f.tag) f.subs
/-- The field with another heading. -/
def putX (f : Fld) (h : List UInt8) : Fld := { f with subs := putU (kindX f.tag) f.subs h }
def looseX (f : Fld) : Bool := decide (f.auth = 0) && !decide (kindX f.tag = 0)
def linkX (L : List Au) (f : Fld) : Fld :=
  if looseX f = true then (if (findA L (kindX f.tag) (headX f)).2.2 = true then { f with auth := (findA L (kindX f.tag) (headX f)).1 } else f) else f
def followX (L : List Au) (f : Fld) : Fld :=
  if (getA L f.auth).isSome = true then (if ((getA L f.auth).getD au0).kind = kindX f.tag then (if ((getA L f.auth).getD au0).heading = headX f then f else putX f ((getA L f.auth).getD au0).heading) else f) else f
def turnX (a b : Int) (f : Fld) : Fld := if 0 < a ∧ f.auth = a then { f with auth := b } else f
/-- A field of moderate size. -/
def okF (f : Fld) : Prop := f.subs.length ≤ 1000 ∧ ∀ s ∈ f.subs, s.2.length ≤ 10000
theorem okF_all (L : List Sub) (C : List UInt8) (h1 : L.length ≤ 1000) (h2 : ∀ s ∈ L, s.2.length ≤ 10000) : (allL L C).length ≤ 1000 ∧ ∀ x ∈ allL L C, x.length ≤ 10000 := by
  unfold allL
  refine ⟨?_, fun x hx => ?_⟩
  · rw [List.length_map]
    exact Nat.le_trans (List.length_filter_le _ _) h1
  · obtain ⟨s, hs, rfl⟩ := List.mem_map.1 hx
    exact h2 s (List.mem_filter.1 hs).1
theorem okF_getD (L : List (List UInt8)) (h : ∀ x ∈ L, x.length ≤ 10000) (i : Nat) : (L.getD i []).length ≤ 1000000 := by
  by_cases hi : i < L.length
  · rw [List.getD_eq_getElem?_getD, List.getElem?_eq_getElem hi]
    exact Nat.le_trans (h _ (List.getElem_mem hi)) (by decide)
  · rw [List.getD_eq_getElem?_getD, List.getElem?_eq_none (by omega)]
    exact Nat.zero_le _
theorem getL_le (c : UInt8) : ∀ L : List Sub, (∀ s ∈ L, s.2.length ≤ 10000) → (getL L c).1.length ≤ 10000
  | [], _ => Nat.zero_le _
  | s :: t, h => by
    rw [getL]
    split
    · exact h s List.mem_cons_self
    · exact getL_le c t fun s hs => h s (List.mem_cons_of_mem _ hs)
theorem plain_le (L : List Sub) (C : List UInt8) (h1 : L.length ≤ 1000) (h2 : ∀ s ∈ L, s.2.length ≤ 10000) : (plainL L C).length ≤ 1001000000 := by
  obtain ⟨h3, h4⟩ := okF_all L C h1 h2
  have := joinK_le [32] (allL L C) (by decide) (okF_getD _ h4) (allL L C).length
  have h5 : (allL L C).length * 1001000 ≤ 1000 * 1001000 := Nat.mul_le_mul_right _ h3
  unfold plainL
  omega
/-- A record in which each field is changed. -/
def mapRec (c : Fld → Fld) (r : Rec) : Rec := { r with fields := r.fields.map c }
/-- A record as its number and its fields' authorities. -/
def pairU (r : Rec) : Int × List Int := (r.id, r.fields.map (·.auth))
def usesX (l : List Rec) (id : Int) : List Int := usesU (l.map pairU) id
def looseL : List Fld → Nat → List Int
  | [], _ => []
  | f :: t, i => (if looseX f = true then [(i : Int)] else []) ++ looseL t (i + 1)
theorem pair_turn (a b : Int) (r : Rec) : pairU (mapRec (turnX a b) r) = (r.id, (r.fields.map (·.auth)).map fun x => if 0 < a ∧ x = a then b else x) := by
  unfold pairU mapRec
  simp only [List.map_map, Prod.mk.injEq, true_and]
  refine List.map_congr_left fun f _ => ?_
  show (turnX a b f).auth = if 0 < a ∧ f.auth = a then b else f.auth
  unfold turnX
  split <;> rfl
theorem uses_turn (l : List Rec) (a b id : Int) : usesX (l.map (mapRec (turnX a b))) id = usesU (turnU (l.map pairU) a b) id := by
  unfold usesX turnU
  rw [List.map_map, List.map_map]
  congr 1
  exact List.map_congr_left fun r _ => pair_turn a b r
theorem turnX_off (a b : Int) (h : ¬ 0 < a) (f : Fld) : turnX a b f = f := by
  unfold turnX
  rw [if_neg (fun g => h g.1)]
theorem looseL_snoc : ∀ (L : List Fld) (i : Nat) (f : Fld), looseL (L ++ [f]) i = looseL L i ++ (if looseX f = true then [((i + L.length : Nat) : Int)] else [])
  | [], i, f => by simp [looseL]
  | a :: t, i, f => by
    rw [List.cons_append, looseL, looseL_snoc t (i + 1) f, looseL, List.append_assoc, List.length_cons, show i + 1 + t.length = i + (t.length + 1) by omega]
theorem looseL_len : ∀ (L : List Fld) (i : Nat), (looseL L i).length ≤ L.length
  | [], _ => Nat.le_refl _
  | f :: t, i => by
    have := looseL_len t (i + 1)
    rw [looseL, List.length_append, List.length_cons]
    split <;> simp <;> omega
end

section
open Go.RowKit Go.PlainAid
/-- append of one text that has just been laid to a row of one's own, however long. -/
theorem append_sr13 {ops : Array Oper} {rest : List Oper} {o : Oper} {a : Act} {Q : Exit → Act → World → Prop} (w : World) (hgd : o.guard = none) (s x : Operand)
    (ho : o.op = .call { callee := .builtin .append, args := #[s, x], argTypes := #[54, 54] })
    (B : Nat) (v : Value) (L : List (List UInt8)) (y : List UInt8) (hs : a.eval s = v) (h : SR B v L w) (hx : a.eval x = .slice (some ⟨w.heap.size, 0, none⟩) 1 1) (hz : (L.length + 1) * 16 ≤ 140737488355328) (hB : B ≤ w.heap.size)
    (N : Nat) (W1 : World) (hNB : N ≤ B) (hb : Below N W1 w)
    (hk : ∀ v' w', SR B v' (L ++ [y]) w' → Below N W1 w' → B ≤ w'.heap.size → wpList Tryz.prog ops Q rest (a.put o.dst v') w') : wpList Tryz.prog ops Q (o :: rest) a (w.alloc (.cells #[strB y] 9)) := by
  obtain ⟨i0, hi, hz0, hz1, hz2⟩ := info_string
  have hrow := h.row.alloc (.cells #[strB y] 9)
  refine wpList_append_own _ hgd s x 54 ho B 9 i0 (.string ⟨#[]⟩) 1 16 Tryz.underlying54 hi hz0 hz1 hz2 rfl (by decide) v L.length _ hs hrow ⟨w.heap.size, 0, none⟩ 1 1 [strB y] hx rfl (cells_one12 _ _ _) (by intro u hu; simp at hu; subst hu; rfl) (by unfold maxLen; omega) (by omega) (by simp; omega) ?_
  intro v2 w2 hown2 hg2 hn2
  refine hk v2 w2 ⟨by rw [List.length_append, List.map_append]; exact hown2, fun e => by have := (hn2.1 e).2; omega⟩ ?_ (Nat.le_trans (by simp; omega) hg2.size)
  exact (hb.alloc (by omega) _).grown hg2 (by simp; omega) (fun j hj => Nat.le_trans hNB (hrow.lt j hj).1)
end

section
open Go.RowKit Go.PlainAid
/-- An authority of moderate size. -/
def smallO (a : Au) : Bool := decide ((hdsX a).length ≤ 12) && decide (a.above.length ≤ 8) && (hdsX a).all fun h => decide (h.length ≤ 260)
theorem smallA_eq (L : List Au) : smallA L = (decide (L.length ≤ 30) && L.all smallO) := rfl
theorem all_bad (p : Au → Bool) (L : List Au) (k : Nat) (hk : k < L.length) (h : p (L.getD k au0) = false) : L.all p = false := by
  rw [Bool.eq_false_iff]
  intro g
  rw [List.all_eq_true] at g
  rw [g _ (mem_getDA L k hk)] at h
  cases h
theorem all_good (p : Au → Bool) (L : List Au) (h : ∀ j, j < L.length → p (L.getD j au0) = true) : L.all p = true := by
  rw [List.all_eq_true]
  intro x hx
  obtain ⟨j, hj, rfl⟩ := List.mem_iff_getElem.1 hx
  have := h j hj
  rwa [getD_at13 L j hj] at this
theorem hall_bad (p : List UInt8 → Bool) (L : List (List UInt8)) (k : Nat) (hk : k < L.length) (h : p (L.getD k []) = false) : L.all p = false := by
  rw [Bool.eq_false_iff]
  intro g
  rw [List.all_eq_true] at g
  rw [g _ (by rw [List.getD_eq_getElem?_getD, List.getElem?_eq_getElem hk]; exact List.getElem_mem _)] at h
  cases h
theorem hall_good (p : List UInt8 → Bool) (L : List (List UInt8)) (h : ∀ j, j < L.length → p (L.getD j []) = true) : L.all p = true := by
  rw [List.all_eq_true]
  intro x hx
  obtain ⟨j, hj, rfl⟩ := List.mem_iff_getElem.1 hx
  have := h j hj
  rwa [List.getD_eq_getElem?_getD, List.getElem?_eq_getElem hj] at this
end

section
open Go.RowKit
set_option maxHeartbeats 1000000 in
theorem allowed_any (c : Nat) (hc : c ≤ 1114111) (b : Bool) (hb : allow c = b) (w : World) :
    Calls Tryz.prog 141 #[.int .i32 (c : Int)] w fun e w' => e = .returned (.bool b) ∧ w = w' := by
  have H := Lib.hid hb
  clear hb
  by_cases h1 : 32 ≤ c
  · by_cases h2 : c ≤ 126
    · obtain rfl : b = true := by have := H.out; rw [← this]; simp [allow, h1, h2]
      have d1 : decide ((32 : Int) ≤ (c : Int)) = true := by simp; omega
      have d2 : decide ((c : Int) ≤ 126) = true := by simp; omega
      clear H h1 h2
      go_enter Tryz.func141, Tryz.ntmps141
      go_wp2
      go_ret
      exact ⟨rfl, rfl⟩
    · by_cases h3 : 160 ≤ c
      · have d1 : decide ((32 : Int) ≤ (c : Int)) = true := by simp; omega
        have d2 : decide ((c : Int) ≤ 126) = false := by simp; omega
        have d3 : decide ((160 : Int) ≤ (c : Int)) = true := by simp; omega
        by_cases h4 : c ≤ 65535
        · obtain rfl : b = true := by have := H.out; rw [← this]; simp [allow, h3, h4]
          have d4 : decide ((c : Int) ≤ 65535) = true := by simp; omega
          clear H h1 h2 h3 h4
          go_enter Tryz.func141, Tryz.ntmps141
          go_wp2
          go_ret
          exact ⟨rfl, rfl⟩
        · obtain rfl : b = false := by have := H.out; rw [← this]; simp [allow, h2, h4]
          have d4 : decide ((c : Int) ≤ 65535) = false := by simp; omega
          clear H h1 h2 h3 h4
          go_enter Tryz.func141, Tryz.ntmps141
          go_wp2
          go_ret
          exact ⟨rfl, rfl⟩
      · obtain rfl : b = false := by have := H.out; rw [← this]; simp [allow, h2, h3]
        have d1 : decide ((32 : Int) ≤ (c : Int)) = true := by simp; omega
        have d2 : decide ((c : Int) ≤ 126) = false := by simp; omega
        have d3 : decide ((160 : Int) ≤ (c : Int)) = false := by simp; omega
        clear H h1 h2 h3
        go_enter Tryz.func141, Tryz.ntmps141
        go_wp2
        go_ret
        exact ⟨rfl, rfl⟩
  · obtain rfl : b = false := by have := H.out; rw [← this]; simp [allow]; omega
    have d1 : decide ((32 : Int) ≤ (c : Int)) = false := by simp; omega
    have d3 : decide ((160 : Int) ≤ (c : Int)) = false := by simp; omega
    clear H h1
    go_enter Tryz.func141, Tryz.ntmps141
    go_wp2
    go_ret
    exact ⟨rfl, rfl⟩
end

end Go.Proofs.YthjdopnoophigaaGreatDoor
