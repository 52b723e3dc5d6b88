/- Merged: Plain14, Plain14C, RA14, Plain07, Plain09. -/
import Derived.Test.YthjdopnoophigaaGreatDoorQ04
import Derived.Test.YthjdopnoophigaaGreatDoorQ01
namespace Go.Proofs.YthjdopnoophigaaGreatDoor

section
/-- An ascending list with another number, if it is not there. -/
def insU : List Int → Int → List Int
  | [], n => [n]
  | x :: r, n => if n < x then n :: x :: r else if x = n then x :: r else x :: insU r n
def AscU (L : List Int) : Prop := L.Pairwise (· < ·)
theorem insU_mem : ∀ (L : List Int) (n i : Int), i ∈ insU L n ↔ i = n ∨ i ∈ L
  | [], n, i => by simp [insU]
  | x :: r, n, i => by
    unfold insU
    split
    · rw [List.mem_cons]
    · split
      · rename_i h
        subst h
        rw [List.mem_cons]
        exact ⟨.inr, fun h => h.elim .inl id⟩
      · rw [List.mem_cons, insU_mem r n i, List.mem_cons]
        exact ⟨fun h => h.elim (fun h => .inr (.inl h)) (fun h => h.elim .inl (fun h => .inr (.inr h))), fun h => h.elim (fun h => .inr (.inl h)) (fun h => h.elim .inl (fun h => .inr (.inr h)))⟩
theorem insU_asc : ∀ (L : List Int) (n : Int), AscU L → AscU (insU L n)
  | [], n, _ => List.pairwise_singleton _ _
  | x :: r, n, h => by
    have h0 := h
    unfold AscU at h
    rw [List.pairwise_cons] at h
    unfold insU
    split
    · rename_i hx
      refine List.pairwise_cons.2 ⟨fun y hy => ?_, h0⟩
      rcases List.mem_cons.1 hy with rfl | hy
      · exact hx
      · have := h.1 y hy
        omega
    · split
      · exact h0
      · refine List.pairwise_cons.2 ⟨fun y hy => ?_, insU_asc r n h.2⟩
        rcases (insU_mem r n y).1 hy with rfl | hy
        · omega
        · exact h.1 y hy
theorem asc_ext : ∀ A B : List Int, AscU A → AscU B → (∀ n, n ∈ A ↔ n ∈ B) → A = B
  | [], [], _, _, _ => rfl
  | [], b :: t, _, _, h => absurd ((h b).2 List.mem_cons_self) (by simp)
  | a :: s, [], _, _, h => absurd ((h a).1 List.mem_cons_self) (by simp)
  | a :: s, b :: t, hA, hB, h => by
    unfold AscU at hA hB
    rw [List.pairwise_cons] at hA hB
    have e : a = b := by
      rcases List.mem_cons.1 ((h a).1 List.mem_cons_self) with e | e
      · exact e
      · rcases List.mem_cons.1 ((h b).2 List.mem_cons_self) with e2 | e2
        · exact e2.symm
        · have h1 := hB.1 a e
          have h2 := hA.1 b e2
          omega
    subst e
    congr 1
    refine asc_ext s t hA.2 hB.2 fun n => ⟨fun hn => ?_, fun hn => ?_⟩
    · rcases List.mem_cons.1 ((h n).1 (List.mem_cons_of_mem _ hn)) with rfl | h2
      · exact absurd (hA.1 n hn) (by omega)
      · exact h2
    · rcases List.mem_cons.1 ((h n).2 (List.mem_cons_of_mem _ hn)) with rfl | h2
      · exact absurd (hB.1 n hn) (by omega)
      · exact h2
theorem fold_ins_mem : ∀ (M L : List Int) (i : Int), i ∈ M.foldl insU L ↔ i ∈ L ∨ i ∈ M
  | [], L, i => by simp
  | m :: M, L, i => by
    rw [List.foldl_cons, fold_ins_mem M (insU L m) i, insU_mem, List.mem_cons]
    exact ⟨fun h => h.elim (fun h => h.elim (fun h => .inr (.inl h)) .inl) (fun h => .inr (.inr h)), fun h => h.elim (fun h => .inl (.inr h)) (fun h => h.elim (fun h => .inl (.inl h)) .inr)⟩
theorem fold_ins_asc : ∀ (M L : List Int), AscU L → AscU (M.foldl insU L)
  | [], _, h => h
  | m :: M, L, h => fold_ins_asc M (insU L m) (insU_asc L m h)

/-- The records that use an authority. -/
def usesU (l : List (Int × List Int)) (id : Int) : List Int := l.foldl (fun out r => if 0 < id ∧ id ∈ r.2 then insU out r.1 else out) []
def turnU (l : List (Int × List Int)) (a b : Int) : List (Int × List Int) := l.map fun r => (r.1, r.2.map fun x => if 0 < a ∧ x = a then b else x)
theorem usesU_go (id : Int) : ∀ (l : List (Int × List Int)) (out : List Int), AscU out →
    AscU (l.foldl (fun out r => if 0 < id ∧ id ∈ r.2 then insU out r.1 else out) out) ∧
    ∀ i, i ∈ l.foldl (fun out r => if 0 < id ∧ id ∈ r.2 then insU out r.1 else out) out ↔ i ∈ out ∨ ∃ r ∈ l, r.1 = i ∧ 0 < id ∧ id ∈ r.2
  | [], out, h => ⟨h, fun i => by simp⟩
  | r :: l, out, h => by
    rw [List.foldl_cons]
    by_cases hr : 0 < id ∧ id ∈ r.2
    · rw [if_pos hr]
      obtain ⟨h1, h2⟩ := usesU_go id l (insU out r.1) (insU_asc out r.1 h)
      refine ⟨h1, fun i => (h2 i).trans ?_⟩
      rw [insU_mem]
      constructor
      · rintro ((rfl | h) | ⟨x, hx, h⟩)
        · exact .inr ⟨r, List.mem_cons_self, rfl, hr⟩
        · exact .inl h
        · exact .inr ⟨x, List.mem_cons_of_mem _ hx, h⟩
      · rintro (h | ⟨x, hx, rfl, h⟩)
        · exact .inl (.inr h)
        · rcases List.mem_cons.1 hx with rfl | hx
          · exact .inl (.inl rfl)
          · exact .inr ⟨x, hx, rfl, h⟩
    · rw [if_neg hr]
      obtain ⟨h1, h2⟩ := usesU_go id l out h
      refine ⟨h1, fun i => (h2 i).trans ?_⟩
      constructor
      · rintro (h | ⟨x, hx, h⟩)
        · exact .inl h
        · exact .inr ⟨x, List.mem_cons_of_mem _ hx, h⟩
      · rintro (h | ⟨x, hx, rfl, h⟩)
        · exact .inl h
        · rcases List.mem_cons.1 hx with rfl | hx
          · exact absurd h hr
          · exact .inr ⟨x, hx, rfl, h⟩
theorem usesU_asc (l : List (Int × List Int)) (id : Int) : AscU (usesU l id) := (usesU_go id l [] List.Pairwise.nil).1
theorem usesU_mem (l : List (Int × List Int)) (id i : Int) : i ∈ usesU l id ↔ ∃ r ∈ l, r.1 = i ∧ 0 < id ∧ id ∈ r.2 := by
  refine ((usesU_go id l [] List.Pairwise.nil).2 i).trans ?_
  simp
theorem turn_mem (L : List Int) (a b x : Int) (ha : 0 < a) (hab : a ≠ b) : x ∈ (L.map fun x => if 0 < a ∧ x = a then b else x) ↔ (x = b ∧ a ∈ L) ∨ (x ≠ a ∧ x ∈ L) := by
  rw [List.mem_map]
  constructor
  · rintro ⟨y, hy, h⟩
    by_cases e : y = a
    · subst e
      rw [if_pos ⟨ha, rfl⟩] at h
      exact .inl ⟨h.symm, hy⟩
    · rw [if_neg (fun h => e h.2)] at h
      subst h
      exact .inr ⟨e, hy⟩
  · rintro (⟨rfl, h⟩ | ⟨h1, h2⟩)
    · exact ⟨a, h, if_pos ⟨ha, rfl⟩⟩
    · exact ⟨x, h2, if_neg (fun h => h1 h.2)⟩
/-- After a turn the first authority is not used .. -/
theorem turn_none (l : List (Int × List Int)) (a b : Int) (ha : 0 < a) (hab : a ≠ b) : usesU (turnU l a b) a = [] := by
  refine List.eq_nil_iff_forall_not_mem.2 fun i hi => ?_
  obtain ⟨r, hr, _, _, h⟩ := (usesU_mem _ _ _).1 hi
  obtain ⟨s, _, rfl⟩ := List.mem_map.1 hr
  rcases (turn_mem s.2 a b a ha hab).1 h with ⟨h, _⟩ | ⟨h, _⟩
  · exact hab h
  · exact h rfl
/-- .. and the second one by all records that used one of both. -/
theorem turn_both (l : List (Int × List Int)) (a b : Int) (ha : 0 < a) (hb : 0 < b) (hab : a ≠ b) : usesU (turnU l a b) b = (usesU l a).foldl insU (usesU l b) := by
  refine asc_ext _ _ (usesU_asc _ _) (fold_ins_asc _ _ (usesU_asc _ _)) fun i => ?_
  rw [fold_ins_mem, usesU_mem, usesU_mem, usesU_mem]
  constructor
  · rintro ⟨r, hr, rfl, _, h⟩
    obtain ⟨s, hs, rfl⟩ := List.mem_map.1 hr
    rcases (turn_mem s.2 a b b ha hab).1 h with ⟨_, h⟩ | ⟨_, h⟩
    · exact .inr ⟨s, hs, rfl, ha, h⟩
    · exact .inl ⟨s, hs, rfl, hb, h⟩
  · rintro (⟨s, hs, rfl, _, h⟩ | ⟨s, hs, rfl, _, h⟩)
    · exact ⟨_, List.mem_map.2 ⟨s, hs, rfl⟩, rfl, hb, (turn_mem s.2 a b b ha hab).2 (.inr ⟨fun e => hab e.symm, h⟩)⟩
    · exact ⟨_, List.mem_map.2 ⟨s, hs, rfl⟩, rfl, hb, (turn_mem s.2 a b b ha hab).2 (.inl ⟨rfl, h⟩)⟩
end

section
def doneU (a : List Int) (n : Int) : Bool := a.any fun x => decide (n ≤ x)
def insT (a : List Int) (n : Int) : List Int := if doneU a n = true then insU a n else a
theorem doneU_app (a : List Int) (n x : Int) : doneU (a ++ [x]) n = (doneU a n || decide (n ≤ x)) := by simp [doneU]
theorem insU_app (n x : Int) : ∀ a : List Int, insU (a ++ [x]) n = if doneU a n = true then insU a n ++ [x] else if n < x then a ++ [n, x] else if x = n then a ++ [x] else a ++ [x, n]
  | [] => by
    have hd : ¬ doneU [] n = true := by simp [doneU]
    rw [if_neg hd]
    rfl
  | y :: r => by
    rw [List.cons_append, insU, insU, insU_app n x r]
    by_cases h : n < y
    · have : doneU (y :: r) n = true := by simp [doneU]; left; omega
      rw [if_pos h, if_pos this, if_pos h]
      rfl
    · rw [if_neg h, if_neg h]
      by_cases h1 : y = n
      · have : doneU (y :: r) n = true := by simp [doneU]; left; omega
        rw [if_pos h1, if_pos this, if_pos h1]
        rfl
      · have : doneU (y :: r) n = doneU r n := by
          have : ¬ n ≤ y := by omega
          simp [doneU, this]
        rw [if_neg h1, this, if_neg h1]
        by_cases h2 : doneU r n = true
        · rw [if_pos h2, if_pos h2]; rfl
        · rw [if_neg h2, if_neg h2]
          by_cases h3 : n < x
          · rw [if_pos h3, if_pos h3]; rfl
          · rw [if_neg h3, if_neg h3]
            by_cases h4 : x = n
            · rw [if_pos h4, if_pos h4]
            · rw [if_neg h4, if_neg h4]; rfl
theorem insU_none (n : Int) : ∀ a : List Int, doneU a n = false → insU a n = a ++ [n]
  | [], _ => rfl
  | y :: r, h => by
    have h1 : ¬ n ≤ y := by
      intro g
      simp [doneU, g] at h
    have h2 : doneU r n = false := by simpa [doneU, h1] using h
    rw [insU, if_neg (by omega), if_neg (by omega), insU_none n r h2]
    rfl
theorem insT_step (a : List Int) (n x : Int) : insT (a ++ [x]) n = if doneU a n = true then insT a n ++ [x] else if n < x then insT a n ++ [n] ++ [x] else insT a n ++ [x] := by
  unfold insT
  rw [doneU_app, insU_app]
  by_cases h : doneU a n = true
  · rw [h, if_pos rfl, if_pos rfl, if_pos rfl]
    rfl
  · rw [if_neg h, if_neg h]
    have h' : doneU a n = false := Bool.eq_false_iff.2 h
    rw [h', Bool.false_or]
    simp only [Bool.false_eq_true, if_false]
    by_cases h2 : n < x
    · rw [if_pos (decide_eq_true (by omega)), if_pos h2, if_pos h2]
      simp
    · rw [if_neg h2, if_neg h2]
      by_cases h3 : x = n
      · rw [if_pos (decide_eq_true (by omega)), if_pos h3]
      · have h4 : decide (n ≤ x) = false := decide_eq_false (by omega)
        rw [h4, if_neg Bool.false_ne_true]
theorem insT_end (a : List Int) (n : Int) : insU a n = if doneU a n = true then insT a n else insT a n ++ [n] := by
  unfold insT
  by_cases h : doneU a n = true
  · rw [if_pos h, if_pos h]
  · rw [if_neg h, if_neg h, insU_none n a (Bool.eq_false_iff.2 h)]
theorem insU_len (n : Int) : ∀ a : List Int, (insU a n).length ≤ a.length + 1
  | [] => Nat.le_refl _
  | y :: r => by
    rw [insU]
    split
    · exact Nat.le_refl _
    · split
      · omega
      · have := insU_len n r
        simp only [List.length_cons]
        omega
theorem insT_len (a : List Int) (n : Int) : (insT a n).length ≤ a.length + 1 := by
  unfold insT
  split
  · exact insU_len n a
  · omega
theorem fold_ins_len : ∀ (M L : List Int), (M.foldl insU L).length ≤ L.length + M.length
  | [], _ => Nat.le_refl _
  | m :: M, L => by
    have h1 := fold_ins_len M (insU L m)
    have h2 := insU_len m L
    simp only [List.foldl_cons, List.length_cons]
    omega
end

section
open Go.RowKit Go.PlainAid
theorem IR.empty (w : World) : IR w.heap.size (.slice (some ⟨w.heap.size, 0, none⟩) 0 0) [] (w.alloc (.cells #[] 3)) :=
  ⟨rfl, .inr ⟨w.heap.size, 0, #[], rfl, Nat.le_refl _, heap_alloc_new w _, Nat.le_refl _, Nat.zero_le _, rfl, rfl⟩⟩
set_option maxHeartbeats 16000000 in
set_option maxRecDepth 100000 in
theorem refInserted_any (v : Value) (l : List Int) (x : Int) (w : World) (hv : IL v l w) (hz : l.length ≤ 1000000) :
    Calls Tryz.prog 23 #[v, .int .i64 x] w fun e w' => ∃ v', e = .returned v' ∧ IL v' (insU l x) w' ∧ Below w.heap.size w w' := by
  obtain ⟨Q, hQ⟩ : ∃ Q, (fun (e : Ending) (w' : World) => ∃ v', e = .returned v' ∧ IL v' (insU l x) w' ∧ Below w.heap.size w w') = Q := ⟨_, rfl⟩
  rw [hQ]
  have HQ : RowKit.Hid (∀ v' W, IR w.heap.size v' (insU l x) W → Below w.heap.size w W → Q (.returned v') W) := by rw [← hQ]; exact fun v W h k => ⟨v, rfl, h.il, k⟩
  clear hQ
  have HV := Lib.hid (fun (W : World) (h : Below w.heap.size w W) => hv.after h)
  obtain ⟨a, cap, rfl, hc, -⟩ := hv
  obtain ⟨n, hn⟩ : ∃ n, l.length = n := ⟨_, rfl⟩
  have HN := Lib.hid hn
  rw [hn] at HV hc hz ⊢
  have HR0 := Lib.hid (IR.empty w)
  have HB0 := Lib.hid ((Below.refl w.heap.size w).alloc (Nat.le_refl _) (.cells #[] 3))
  clear hn
  go_enter Tryz.func23, Tryz.ntmps23
  go_wp2
  go_loopw [5, 6, 7] (fun s5 s6 s7 wr => ∃ k : Nat, s7 = .int .i64 (k : Int) ∧ k ≤ n ∧ s6 = .bool (doneU (l.take k) x) ∧ RowKit.Hid (IR w.heap.size s5 (insT (l.take k) x) wr) ∧ RowKit.Hid (Below w.heap.size w wr)) (fun _ _ s7 _ => n - (intOf s7).toNat)
  case atStart => exact ⟨0, rfl, Nat.zero_le _, rfl, HR0.out, HB0.out⟩
  case round =>
    obtain ⟨k, rfl, hk, rfl, HI, HB⟩ := hrel
    clear HR0 HB0
    by_cases hkn : k < n
    · have i1 : (0 : Int) ≤ (k : Int) := by omega
      have i2 : (k : Int) < (n : Int) := by omega
      obtain ⟨y, hy⟩ : ∃ y, l.getD k 0 = y := ⟨_, rfl⟩
      have hsn : l.take (k + 1) = l.take k ++ [y] := by rw [take_snocI l k (by rw [HN.out]; exact hkn), hy]
      have hst := insT_step (l.take k) x y
      have hdn := doneU_app (l.take k) x y
      rw [← hsn] at hst hdn
      obtain ⟨a', cap', he, hc2, hcell⟩ := HV.out wr HB.out
      obtain ⟨rfl, -, rfl⟩ := Value.slice.inj he
      have hgy : l[k]? = some y := by rw [← hy, List.getD_eq_getElem?_getD, List.getElem?_eq_getElem (by rw [HN.out]; exact hkn)]; rfl
      obtain ⟨g, o, ha, hg, c1⟩ := hcell k y hgy
      subst ha
      have HCell : RowKit.Hid (∀ W : World, Below w.heap.size w W → W.cell? ⟨g, o + k, none⟩ = some (.int .i64 y)) := by
        intro W hW
        obtain ⟨a3, cap3, he3, -, hcell3⟩ := HV.out W hW
        obtain ⟨he4, -, -⟩ := Value.slice.inj he3
        obtain ⟨g3, o3, ha3, -, c3⟩ := hcell3 k y hgy
        rw [← he4] at ha3
        obtain ⟨rfl, rfl, -⟩ := Addr.mk.inj (Option.some.inj ha3)
        exact c3
      have hlen : (insT (l.take k) x).length ≤ 1000001 := by
        have := insT_len (l.take k) x
        rw [List.length_take] at this
        omega
      obtain ⟨M, hM⟩ : ∃ M, insT (l.take k) x = M := ⟨_, rfl⟩
      obtain ⟨dn, hd⟩ : ∃ dn, doneU (l.take k) x = dn := ⟨_, rfl⟩
      rw [hM, hd] at hst
      rw [hM] at hlen HI
      rw [hd] at hdn
      rw [hd]
      have HLen := Lib.hid hlen
      have HSt := Lib.hid hst
      have HDn := Lib.hid hdn
      clear he hcell hg hM hd hsn hst hdn hlen hy hc2 hgy
      cases dn
      · by_cases h1 : x < y
        · have t1 : decide (x ≤ y) = true := decide_eq_true (by omega)
          have t2 : decide (x < y) = true := decide_eq_true h1
          have hs := HSt.out
          rw [if_neg (by decide), if_pos h1] at hs
          have hd := HDn.out
          rw [t1, Bool.or_true] at hd
          have HS := Lib.hid hs
          have HD := Lib.hid hd
          clear hs hd HSt HDn h1
          go_wp2_with (at_builtin; refine append_ir _ rfl _ _ rfl w.heap.size u5 M x rfl HI.out rfl (by have := HLen.out; omega) HB.out.size w.heap.size w (Nat.le_refl _) HB.out ?_)
          intro v' w' hs' hb' hB'
          have HI2 := Lib.hid hs'
          have HB2 := Lib.hid hb'
          have HL2 : RowKit.Hid ((M ++ [x]).length ≤ 1000002) := by have := HLen.out; unfold RowKit.Hid; rw [List.length_append]; simp; omega
          have c2 : w'.cell? ⟨g, o + k, none⟩ = some (.int .i64 y) := HCell.out w' hb'
          clear hs' hb' hB' HI HB c1
          go_wp2_with (at_builtin; refine append_ir _ rfl _ _ rfl w.heap.size v' (M ++ [x]) y rfl HI2.out rfl (by have := HL2.out; omega) HB2.out.size w.heap.size w (Nat.le_refl _) HB2.out ?_)
          intro v'' w'' hs' hb' hB'
          have HI3 := Lib.hid hs'
          have HB3 := Lib.hid hb'
          clear hs' hb' hB' HI2 HB2 c2
          go_wp2
          go_roundw
          case rel => exact ⟨k + 1, by go_num, by omega, by rw [HD.out], by rw [HS.out]; first | exact HI3.out | (rw [List.append_assoc]; exact HI3.out), HB3.out⟩
          case measure => simp [intOf]; omega
        · have t2 : decide (x < y) = false := decide_eq_false h1
          have hs := HSt.out
          rw [if_neg (by decide), if_neg h1] at hs
          have HS := Lib.hid hs
          obtain ⟨q, hq⟩ : ∃ q, decide (x ≤ y) = q := ⟨_, rfl⟩
          have hd := HDn.out
          rw [hq, Bool.false_or] at hd
          have HD := Lib.hid hd
          clear hs hd HSt HDn h1
          cases q
          · go_wp2_with (at_builtin; refine append_ir _ rfl _ _ rfl w.heap.size u5 M y rfl HI.out rfl (by have := HLen.out; omega) HB.out.size w.heap.size w (Nat.le_refl _) HB.out ?_)
            intro v'' w'' hs' hb' hB'
            have HI3 := Lib.hid hs'
            have HB3 := Lib.hid hb'
            clear hs' hb' hB' HI HB c1
            go_wp2
            go_roundw
            case rel => exact ⟨k + 1, by go_num, by omega, by rw [HD.out], by rw [HS.out]; first | exact HI3.out | (rw [List.append_assoc]; exact HI3.out), HB3.out⟩
            case measure => simp [intOf]; omega
          · go_wp2_with (at_builtin; refine append_ir _ rfl _ _ rfl w.heap.size u5 M y rfl HI.out rfl (by have := HLen.out; omega) HB.out.size w.heap.size w (Nat.le_refl _) HB.out ?_)
            intro v'' w'' hs' hb' hB'
            have HI3 := Lib.hid hs'
            have HB3 := Lib.hid hb'
            clear hs' hb' hB' HI HB c1
            go_wp2
            go_roundw
            case rel => exact ⟨k + 1, by go_num, by omega, by rw [HD.out], by rw [HS.out]; first | exact HI3.out | (rw [List.append_assoc]; exact HI3.out), HB3.out⟩
            case measure => simp [intOf]; omega
      · have hs := HSt.out
        rw [if_pos rfl] at hs
        have hd := HDn.out
        rw [Bool.true_or] at hd
        have HS := Lib.hid hs
        have HD := Lib.hid hd
        clear hs hd HSt HDn
        go_wp2_with (at_builtin; refine append_ir _ rfl _ _ rfl w.heap.size u5 M y rfl HI.out rfl (by have := HLen.out; omega) HB.out.size w.heap.size w (Nat.le_refl _) HB.out ?_)
        intro v'' w'' hs' hb' hB'
        have HI3 := Lib.hid hs'
        have HB3 := Lib.hid hb'
        clear hs' hb' hB' HI HB c1
        go_wp2
        go_roundw
        case rel => exact ⟨k + 1, by go_num, by omega, by rw [HD.out], by rw [HS.out]; first | exact HI3.out | (rw [List.append_assoc]; exact HI3.out), HB3.out⟩
        case measure => simp [intOf]; omega
    · obtain rfl : k = n := by omega
      have hT : l.take k = l := by rw [← HN.out, List.take_length]
      rw [hT] at HI ⊢
      have hend := insT_end l x
      have hlen : (insT l x).length ≤ 1000001 := by
        have := insT_len l x
        rw [HN.out] at this
        omega
      obtain ⟨M, hM⟩ : ∃ M, insT l x = M := ⟨_, rfl⟩
      obtain ⟨dn, hd⟩ : ∃ dn, doneU l x = dn := ⟨_, rfl⟩
      rw [hM, hd] at hend
      rw [hM] at HI hlen
      rw [hd]
      have HLen := Lib.hid hlen
      clear hM hd hT hlen
      cases dn
      · rw [if_neg (by decide)] at hend
        have HEnd := Lib.hid hend
        clear hend
        go_wp2_with (at_builtin; refine append_ir _ rfl _ _ rfl w.heap.size u5 M x rfl HI.out rfl (by have := HLen.out; omega) HB.out.size w.heap.size w (Nat.le_refl _) HB.out ?_)
        intro v' w' hs' hb' hB'
        have HG := Lib.hid (HQ.out v' w' (by rw [HEnd.out]; exact hs') hb')
        clear hs' hb' hB' HI HB HQ
        go_wp2
        first | exact HG.out | (go_ret; exact HG.out)
      · rw [if_pos rfl] at hend
        have HG := Lib.hid (HQ.out u5 wr (by rw [hend]; exact HI.out) HB.out)
        clear hend HI HB HQ
        go_wp2
        first | exact HG.out | (go_ret; exact HG.out)
end

section
def digB (x : UInt8) : Bool := decide (48 ≤ x.toNat) && decide (x.toNat ≤ 57)
theorem digB_iff (x : UInt8) : digB x = true ↔ 48 ≤ x.toNat ∧ x.toNat ≤ 57 := by simp [digB]
def codeB (x : UInt8) : Bool := digB x || (decide (97 ≤ x.toNat) && decide (x.toNat ≤ 122))
/-- Three digits, from 010 on. -/
def tagB (l : List UInt8) : Bool := decide (l.length = 3) && digB (l.getD 0 0) && digB (l.getD 1 0) && digB (l.getD 2 0) && !(decide (l.getD 0 0 = 48) && decide (l.getD 1 0 = 48))
abbrev Sub := UInt8 × List UInt8
structure Fld where
  tag : List UInt8
  ind : List UInt8
  subs : List Sub
  auth : Int
def sub0 : Sub := (0, [])
/-- The values of the subfields that a code picks. -/
def inB (c : UInt8) (codes : List UInt8) : Bool := codes.any (fun x => decide (x = c)) || decide (codes = [])
def allL (subs : List Sub) (codes : List UInt8) : List (List UInt8) := (subs.filter fun s => inB s.1 codes).map (·.2)
theorem allL_snoc (L : List Sub) (codes : List UInt8) (k : Nat) (h : k < L.length) : allL (L.take (k + 1)) codes = allL (L.take k) codes ++ (if inB (L.getD k sub0).1 codes = true then [(L.getD k sub0).2] else []) := by
  rw [List.take_succ_eq_append_getElem h, List.getD_eq_getElem?_getD, List.getElem?_eq_getElem h]
  unfold allL
  rw [List.filter_append, List.map_append]
  congr 1
  show _ = if inB L[k].1 codes = true then [L[k].2] else []
  by_cases hi : inB L[k].1 codes = true
  · rw [if_pos hi]; simp [hi]
  · rw [if_neg hi]; simp [hi]
theorem allL_length (L : List Sub) (codes : List UInt8) : (allL L codes).length ≤ L.length := by
  unfold allL
  rw [List.length_map]
  exact List.length_filter_le _ _
def getL : List Sub → UInt8 → List UInt8 × Bool
  | [], _ => ([], false)
  | s :: t, c => if s.1 = c then (s.2, true) else getL t c
theorem getL_hit : ∀ (L : List Sub) (c : UInt8) (k : Nat), k < L.length → (∀ j, j < k → (L.getD j sub0).1 ≠ c) → (L.getD k sub0).1 = c → getL L c = ((L.getD k sub0).2, true)
  | [], _, _, hk, _, _ => by cases hk
  | s :: t, c, 0, _, _, he => by
    have he : s.1 = c := he
    rw [getL, if_pos he]
    rfl
  | s :: t, c, k + 1, hk, h, he => by
    have h0 : ¬ s.1 = c := h 0 (Nat.succ_pos k)
    rw [getL, if_neg h0]
    exact getL_hit t c k (by simpa using hk) (fun j hj => h (j + 1) (by omega)) he
theorem getL_miss : ∀ (L : List Sub) (c : UInt8), (∀ j, j < L.length → (L.getD j sub0).1 ≠ c) → getL L c = ([], false)
  | [], _, _ => rfl
  | s :: t, c, h => by
    have h0 : ¬ s.1 = c := h 0 (by simp)
    rw [getL, if_neg h0]
    exact getL_miss t c (fun j hj => h (j + 1) (by simpa using hj))
def setL (subs : List Sub) (c : UInt8) (v : List UInt8) : List Sub :=
  if v = [] then subs.filter fun s => decide (s.1 ≠ c)
  else match subs.findIdx? (fun s => decide (s.1 = c)) with
    | some i => subs.set i (c, v)
    | none => subs ++ [(c, v)]
end

section
structure Rul where
  tag : List UInt8
  rep : Bool
  must : Bool
  codes : List UInt8
  once : List UInt8
  needs : List UInt8
  auth : Int
def rul0 : Rul := ⟨[], false, false, [], [], [], 0⟩
structure Prb where
  kind : Int
  index : Int
  tag : List UInt8
  code : UInt8
def prb0 : Prb := ⟨0, 0, [], 0⟩
def sameRul (a b : Rul) : Bool := decide (a.tag = b.tag) && decide (a.rep = b.rep) && decide (a.must = b.must) && decide (a.codes = b.codes) && decide (a.once = b.once) && decide (a.needs = b.needs) && decide (a.auth = b.auth)
theorem sameRul_iff (a b : Rul) : sameRul a b = true ↔ a = b := by
  cases a; cases b
  simp only [sameRul, Bool.and_eq_true, decide_eq_true_eq, Rul.mk.injEq]
  constructor
  · rintro ⟨⟨⟨⟨⟨⟨h1, h2⟩, h3⟩, h4⟩, h5⟩, h6⟩, h7⟩; exact ⟨h1, h2, h3, h4, h5, h6, h7⟩
  · rintro ⟨h1, h2, h3, h4, h5, h6, h7⟩; exact ⟨⟨⟨⟨⟨⟨h1, h2⟩, h3⟩, h4⟩, h5⟩, h6⟩, h7⟩
def samePrb (a b : Prb) : Bool := decide (a.kind = b.kind) && decide (a.index = b.index) && decide (a.tag = b.tag) && decide (a.code = b.code)
theorem samePrb_iff (a b : Prb) : samePrb a b = true ↔ a = b := by
  cases a; cases b
  simp only [samePrb, Bool.and_eq_true, decide_eq_true_eq, Prb.mk.injEq]
  constructor
  · rintro ⟨⟨⟨h1, h2⟩, h3⟩, h4⟩; exact ⟨h1, h2, h3, h4⟩
  · rintro ⟨h1, h2, h3, h4⟩; exact ⟨⟨⟨h1, h2⟩, h3⟩, h4⟩
theorem list_ext_at {α : Type} (d : α) (A B : List α) (hl : A.length = B.length) (h : ∀ i, i < A.length → A.getD i d = B.getD i d) : A = B := by
  refine List.ext_getElem hl fun i h1 h2 => ?_
  have := h i h1
  rwa [List.getD_eq_getElem?_getD, List.getD_eq_getElem?_getD, List.getElem?_eq_getElem h1, List.getElem?_eq_getElem h2] at this
theorem range_all_true (p : Nat → Bool) (n : Nat) (h : ∀ i, i < n → p i = true) : (List.range n).all p = true := by
  rw [List.all_eq_true]
  intro i hi
  exact h i (List.mem_range.1 hi)
theorem range_all_false (p : Nat → Bool) (n k : Nat) (hk : k < n) (h : p k = false) : (List.range n).all p = false := by
  rw [List.all_eq_false]
  exact ⟨k, List.mem_range.2 hk, by rw [h]; exact Bool.false_ne_true⟩

/-! Codes. -/
def hasB (l : List UInt8) (c : UInt8) : Bool := l.any fun y => decide (y = c)
def codeAt (s : List UInt8) (i : Nat) : Bool := codeB (s.getD i 0) && (decide (i = 0) || decide ((s.getD (i - 1) 0).toNat < (s.getD i 0).toNat))
def codesB (s : List UInt8) : Bool := (List.range s.length).all (codeAt s)
def withinB (all s : List UInt8) : Bool := (List.range s.length).all fun i => hasB all (s.getD i 0)
def choiceB (s codes : List UInt8) : Bool := withinB codes s && codesB s

/-! Right. -/
def leB (a b : List UInt8) : Bool := Op.bytesLess a b || (a == b)
def formB (t : Rul) : Bool := decide (t.codes ≠ []) && codesB t.codes && codesB t.once && codesB t.needs && withinB t.codes t.once && withinB t.codes t.needs
def errR (first : Bool) (before : List UInt8) (t : Rul) : Int :=
  if tagB t.tag = false then 6 else if first = false ∧ leB t.tag before = true then 7 else if formB t = false then 3 else if t.auth < 0 ∨ 4 < t.auth then 1 else 0
def errAt (l : List Rul) (i : Nat) : Int := errR (decide (i = 0)) (l.getD (i - 1) rul0).tag (l.getD i rul0)
def rightL (l : List Rul) : Int := if 32 < l.length then 13 else ((List.range l.length).find? fun i => decide (errAt l i ≠ 0)).elim 0 (errAt l)
theorem find_range (p : Nat → Bool) (n k : Nat) (hk : k < n) (h : ∀ j, j < k → p j = false) (hp : p k = true) : (List.range n).find? p = some k := by
  rw [List.find?_eq_some_iff_append]
  refine ⟨hp, List.range k, (List.range (n - k - 1)).map (fun j => k + 1 + j), ?_, fun j hj => by rw [h j (List.mem_range.1 hj)]; rfl⟩
  refine List.ext_getElem (by simp; omega) fun i h1 h2 => ?_
  rw [List.getElem_range]
  rcases Nat.lt_trichotomy i k with hlt | rfl | hgt
  · rw [List.getElem_append_left (by simpa using hlt), List.getElem_range]
  · rw [List.getElem_append_right (by simp)]
    simp
  · rw [List.getElem_append_right (by simp; omega)]
    simp only [List.length_range]
    obtain ⟨m, rfl⟩ : ∃ m, i = k + 1 + m := ⟨i - k - 1, by omega⟩
    simp only [show k + 1 + m - k = m + 1 by omega, List.getElem_cons_succ, List.getElem_map, List.getElem_range]
theorem rightL_long (l : List Rul) (h : 32 < l.length) : rightL l = 13 := if_pos h
theorem rightL_hit (l : List Rul) (hl : ¬ 32 < l.length) (k : Nat) (hk : k < l.length) (h : ∀ j, j < k → errAt l j = 0) (he : errAt l k ≠ 0) : rightL l = errAt l k := by
  unfold rightL
  rw [if_neg hl, find_range _ _ k hk (fun j hj => by simp [h j hj]) (by simp [he])]
  rfl
theorem rightL_miss (l : List Rul) (hl : ¬ 32 < l.length) (h : ∀ j, j < l.length → errAt l j = 0) : rightL l = 0 := by
  unfold rightL
  rw [if_neg hl]
  have : (List.range l.length).find? (fun i => decide (errAt l i ≠ 0)) = none := by
    rw [List.find?_eq_none]
    intro i hi
    simp [h i (List.mem_range.1 hi)]
  rw [this]
  rfl

/-! Find. -/
def findR : List Rul → List UInt8 → Rul × Bool
  | [], _ => (rul0, false)
  | t :: s, g => if t.tag = g then (t, true) else findR s g
theorem findR_hit : ∀ (L : List Rul) (g : List UInt8) (k : Nat), k < L.length → (∀ j, j < k → (L.getD j rul0).tag ≠ g) → (L.getD k rul0).tag = g → findR L g = (L.getD k rul0, true)
  | [], _, _, hk, _, _ => by cases hk
  | s :: t, c, 0, _, _, he => by
    have he : s.tag = c := he
    rw [findR, if_pos he]
    rfl
  | s :: t, c, k + 1, hk, h, he => by
    have h0 : ¬ s.tag = c := h 0 (Nat.succ_pos k)
    rw [findR, if_neg h0]
    exact findR_hit t c k (by simpa using hk) (fun j hj => h (j + 1) (by omega)) he
theorem findR_miss : ∀ (L : List Rul) (g : List UInt8), (∀ j, j < L.length → (L.getD j rul0).tag ≠ g) → findR L g = (rul0, false)
  | [], _, _ => rfl
  | s :: t, c, h => by
    have h0 : ¬ s.tag = c := h 0 (by simp)
    rw [findR, if_neg h0]
    exact findR_miss t c (fun j hj => h (j + 1) (by simpa using hj))
theorem findR_cases : ∀ (L : List Rul) (g : List UInt8), ((findR L g).2 = false ∧ (findR L g).1 = rul0) ∨ ((findR L g).2 = true ∧ (findR L g).1 ∈ L ∧ (findR L g).1.tag = g)
  | [], _ => .inl ⟨rfl, rfl⟩
  | t :: s, g => by
    rw [findR]
    by_cases h : t.tag = g
    · rw [if_pos h]
      exact .inr ⟨rfl, List.mem_cons_self .., h⟩
    · rw [if_neg h]
      rcases findR_cases s g with h' | ⟨h1, h2, h3⟩
      · exact .inl h'
      · exact .inr ⟨h1, List.mem_cons_of_mem _ h2, h3⟩

/-! Check. -/
def tagIn (L : List Fld) (g : List UInt8) : Bool := L.any fun f => decide (f.tag = g)
def codeIn (L : List Sub) (c : UInt8) : Bool := L.any fun s => decide (s.1 = c)
def mustP (fs : List Fld) (t : Rul) : List Prb := if (t.must && !(tagIn fs t.tag)) = true then [⟨1, -1, t.tag, 0⟩] else []
def mustL (l : List Rul) (fs : List Fld) : List Prb := l.flatMap (mustP fs)
def subP9 (t : Rul) (f : Fld) (i : Int) (k : Nat) : List Prb :=
  if hasB t.codes (f.subs.getD k sub0).1 = false then [⟨4, i, f.tag, (f.subs.getD k sub0).1⟩]
  else if (hasB t.once (f.subs.getD k sub0).1 && codeIn (f.subs.take k) (f.subs.getD k sub0).1) = true then [⟨5, i, f.tag, (f.subs.getD k sub0).1⟩] else []
def needP (t : Rul) (f : Fld) (i : Int) (k : Nat) : List Prb := if codeIn f.subs (t.needs.getD k 0) = false then [⟨6, i, f.tag, t.needs.getD k 0⟩] else []
def subsL (t : Rul) (f : Fld) (i : Int) (n : Nat) : List Prb := (List.range n).flatMap (subP9 t f i)
def needsL (t : Rul) (f : Fld) (i : Int) (n : Nat) : List Prb := (List.range n).flatMap (needP t f i)
def ruledL (t : Rul) (f : Fld) (i : Int) (again : Bool) : List Prb :=
  (if (!t.rep && again) = true then [⟨3, i, f.tag, 0⟩] else []) ++ (subsL t f i f.subs.length ++ (needsL t f i t.needs.length ++ (if f.auth ≠ 0 ∧ t.auth = 0 then [⟨7, i, f.tag, 0⟩] else [])))
def oneL (l : List Rul) (f : Fld) (i : Int) (again : Bool) : List Prb :=
  if (findR l f.tag).2 = false then [⟨2, i, f.tag, 0⟩] else ruledL (findR l f.tag).1 f i again
def fieldAt (l : List Rul) (fs : List Fld) (i : Nat) : List Prb := oneL l (fs.getD i ⟨[], [], [], 0⟩) (i : Int) (tagIn (fs.take i) (fs.getD i ⟨[], [], [], 0⟩).tag)
def fieldsP (l : List Rul) (fs : List Fld) (n : Nat) : List Prb := (List.range n).flatMap (fieldAt l fs)
def checkL (l : List Rul) (fs : List Fld) : List Prb := mustL l fs ++ fieldsP l fs fs.length
theorem range_flat {α : Type} (f : Nat → List α) (n : Nat) : (List.range (n + 1)).flatMap f = (List.range n).flatMap f ++ f n := by
  rw [List.range_succ, List.flatMap_append]
  simp
theorem subsL_succ (t : Rul) (f : Fld) (i : Int) (n : Nat) : subsL t f i (n + 1) = subsL t f i n ++ subP9 t f i n := range_flat _ _
theorem needsL_succ (t : Rul) (f : Fld) (i : Int) (n : Nat) : needsL t f i (n + 1) = needsL t f i n ++ needP t f i n := range_flat _ _
theorem fieldsP_succ (l : List Rul) (fs : List Fld) (n : Nat) : fieldsP l fs (n + 1) = fieldsP l fs n ++ fieldAt l fs n := range_flat _ _
theorem mustL_succ (l : List Rul) (fs : List Fld) (k : Nat) (h : k < l.length) : mustL (l.take (k + 1)) fs = mustL (l.take k) fs ++ mustP fs (l.getD k rul0) := by
  unfold mustL
  rw [List.take_succ_eq_append_getElem h, List.flatMap_append, List.getD_eq_getElem?_getD, List.getElem?_eq_getElem h]
  simp
theorem flat_le {α : Type} (f : Nat → List α) (m n : Nat) (h : ∀ i, (f i).length ≤ m) : ((List.range n).flatMap f).length ≤ n * m := by
  induction n with
  | zero => simp
  | succ n ih =>
    rw [range_flat, List.length_append, Nat.succ_mul]
    have := h n
    omega
theorem subP_le (t : Rul) (f : Fld) (i : Int) (k : Nat) : (subP9 t f i k).length ≤ 1 := by
  unfold subP9
  split
  · exact Nat.le_refl 1
  · split
    · exact Nat.le_refl 1
    · exact Nat.zero_le _
theorem needP_le (t : Rul) (f : Fld) (i : Int) (k : Nat) : (needP t f i k).length ≤ 1 := by
  unfold needP
  split
  · exact Nat.le_refl 1
  · exact Nat.zero_le _
theorem subsL_le (t : Rul) (f : Fld) (i : Int) (n : Nat) : (subsL t f i n).length ≤ n := by
  have := flat_le (subP9 t f i) 1 n (subP_le t f i)
  unfold subsL
  omega
theorem needsL_le (t : Rul) (f : Fld) (i : Int) (n : Nat) : (needsL t f i n).length ≤ n := by
  have := flat_le (needP t f i) 1 n (needP_le t f i)
  unfold needsL
  omega
theorem ruledL_le (t : Rul) (f : Fld) (i : Int) (again : Bool) : (ruledL t f i again).length ≤ f.subs.length + t.needs.length + 2 := by
  unfold ruledL
  have h1 := subsL_le t f i f.subs.length
  have h2 := needsL_le t f i t.needs.length
  rw [List.length_append, List.length_append, List.length_append]
  have h3 : (if (!t.rep && again) = true then [(⟨3, i, f.tag, 0⟩ : Prb)] else []).length ≤ 1 := by
    split
    · exact Nat.le_refl 1
    · exact Nat.zero_le _
  have h4 : (if f.auth ≠ 0 ∧ t.auth = 0 then [(⟨7, i, f.tag, 0⟩ : Prb)] else []).length ≤ 1 := by
    split
    · exact Nat.le_refl 1
    · exact Nat.zero_le _
  omega
theorem oneL_le (l : List Rul) (f : Fld) (i : Int) (again : Bool) (hs : f.subs.length ≤ 1000) (hn : ∀ t ∈ l, t.needs.length ≤ 1000) : (oneL l f i again).length ≤ 2002 := by
  unfold oneL
  split
  · exact Nat.le_trans (Nat.le_refl 1) (by decide)
  · have h := ruledL_le (findR l f.tag).1 f i again
    have h2 : (findR l f.tag).1.needs.length ≤ 1000 := by
      rcases findR_cases l f.tag with ⟨_, h'⟩ | ⟨_, h', _⟩
      · rw [h']; exact Nat.zero_le _
      · exact hn _ h'
    omega
theorem mustL_le (fs : List Fld) : ∀ l : List Rul, (mustL l fs).length ≤ l.length
  | [] => Nat.le_refl 0
  | t :: s => by
    have := mustL_le fs s
    unfold mustL at this ⊢
    rw [List.flatMap_cons, List.length_append, List.length_cons]
    have h1 : (mustP fs t).length ≤ 1 := by
      unfold mustP
      split
      · exact Nat.le_refl 1
      · exact Nat.zero_le _
    omega
theorem tagIn_snoc (L : List Fld) (k : Nat) (h : k < L.length) (d : Fld) (g : List UInt8) : tagIn (L.take (k + 1)) g = (tagIn (L.take k) g || decide ((L.getD k d).tag = g)) := by
  rw [List.take_succ_eq_append_getElem h, List.getD_eq_getElem?_getD, List.getElem?_eq_getElem h]
  unfold tagIn
  rw [List.any_append]
  simp
theorem codeIn_snoc (L : List Sub) (k : Nat) (h : k < L.length) (c : UInt8) : codeIn (L.take (k + 1)) c = (codeIn (L.take k) c || decide ((L.getD k sub0).1 = c)) := by
  rw [List.take_succ_eq_append_getElem h, List.getD_eq_getElem?_getD, List.getElem?_eq_getElem h]
  unfold codeIn
  rw [List.any_append]
  simp
end

end Go.Proofs.YthjdopnoophigaaGreatDoor
