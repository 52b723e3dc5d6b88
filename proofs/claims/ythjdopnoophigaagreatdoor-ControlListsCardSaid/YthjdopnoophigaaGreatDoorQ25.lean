/- Merged: Plain13E, Plain13F, QA13, QB13, FR13. -/
import Derived.Test.YthjdopnoophigaaGreatDoorQ18
import Derived.Test.YthjdopnoophigaaGreatDoorQ03
import Derived.Deep.LoopGhost
import Derived.Test.YthjdopnoophigaaGreatDoorQ24
import Derived.Deep.RegionLaw
import Derived.Laws.MakeOwn
namespace Go.Proofs.YthjdopnoophigaaGreatDoor

section
section
variable {α : Type} (f : α → Int)
def AscG (L : List α) : Prop := L.Pairwise fun x y => f x < f y
/-- How many come before a number. -/
def plcG (L : List α) (n : Int) : Nat := L.countP fun a => decide (f a < n)
theorem plc_le (L : List α) (n : Int) : plcG f L n ≤ L.length := List.countP_le_length
theorem plc_lt (a : α) (r : List α) (n : Int) (h : f a < n) : plcG f (a :: r) n = plcG f r n + 1 := by
  unfold plcG
  rw [List.countP_cons, if_pos (decide_eq_true h)]
theorem plc_ge (a : α) (r : List α) (n : Int) (hs : AscG f (a :: r)) (h : ¬ f a < n) : plcG f (a :: r) n = 0 := by
  unfold plcG
  rw [List.countP_eq_zero]
  unfold AscG at hs
  rw [List.pairwise_cons] at hs
  intro x hx
  rw [decide_eq_true_eq]
  rcases List.mem_cons.1 hx with rfl | hx
  · exact h
  · have := hs.1 x hx
    omega
theorem asc_tail {a : α} {r : List α} (h : AscG f (a :: r)) : AscG f r := (List.pairwise_cons.1 h).2
theorem plc_eq (d : α) : ∀ (L : List α) (n : Int) (k : Nat), k ≤ L.length → (∀ t, t < k → f (L.getD t d) < n) → (∀ t, k ≤ t → t < L.length → n ≤ f (L.getD t d)) → plcG f L n = k
  | [], _, k, hk, _, _ => by
    have : k = 0 := by simpa using hk
    subst this
    rfl
  | a :: r, n, 0, _, _, h2 => by
    unfold plcG
    rw [List.countP_eq_zero]
    intro x hx
    obtain ⟨t, ht, rfl⟩ := List.getElem_of_mem hx
    have := h2 t (Nat.zero_le _) ht
    rw [List.getD_eq_getElem?_getD, List.getElem?_eq_getElem ht] at this
    rw [decide_eq_true_eq]
    have h3 : n ≤ f ((a :: r)[t]) := this
    omega
  | a :: r, n, k + 1, hk, h1, h2 => by
    have h0 := h1 0 (Nat.succ_pos _)
    rw [plc_lt f a r n h0, plc_eq d r n k (by simpa using hk) (fun t ht => by simpa using h1 (t + 1) (by omega)) (fun t h3 h4 => by simpa using h2 (t + 1) (by omega) (by simpa using h4))]
theorem plc_low (d : α) : ∀ (L : List α) (n : Int), AscG f L → ∀ t, t < plcG f L n → f (L.getD t d) < n
  | [], n, _, t, h => by simp [plcG] at h
  | a :: r, n, hs, t, h => by
    by_cases ha : f a < n
    · rw [plc_lt f a r n ha] at h
      cases t with
      | zero => exact ha
      | succ t => exact plc_low d r n (asc_tail f hs) t (by omega)
    · rw [plc_ge f a r n hs ha] at h
      omega
theorem plc_high (d : α) : ∀ (L : List α) (n : Int), AscG f L → ∀ t, plcG f L n ≤ t → t < L.length → n ≤ f (L.getD t d)
  | [], n, _, t, _, h => by simp at h
  | a :: r, n, hs, t, h, hl => by
    by_cases ha : f a < n
    · rw [plc_lt f a r n ha] at h
      cases t with
      | zero => omega
      | succ t => exact plc_high d r n (asc_tail f hs) t (by omega) (by simpa using hl)
    · cases t with
      | zero => show n ≤ f a; omega
      | succ t =>
        have h1 : t < r.length := by simpa using hl
        have := (List.pairwise_cons.1 hs).1 (r.getD t d) (by rw [List.getD_eq_getElem?_getD, List.getElem?_eq_getElem h1]; exact List.getElem_mem h1)
        show n ≤ f (r.getD t d)
        omega
/-- What has this number stands at its place. -/
theorem plc_at (d : α) : ∀ (L : List α) (n : Int) (_ : AscG f L) (x : α), x ∈ L → f x = n → plcG f L n < L.length ∧ L.getD (plcG f L n) d = x
  | [], _, _, _, h, _ => by cases h
  | a :: r, n, hs, x, hx, he => by
    by_cases ha : f a < n
    · rw [plc_lt f a r n ha]
      rcases List.mem_cons.1 hx with rfl | hx
      · omega
      · obtain ⟨h1, h2⟩ := plc_at d r n (asc_tail f hs) x hx he
        exact ⟨by simpa using h1, h2⟩
    · rw [plc_ge f a r n hs ha]
      rcases List.mem_cons.1 hx with rfl | hx
      · exact ⟨Nat.succ_pos _, rfl⟩
      · have := (List.pairwise_cons.1 hs).1 x hx
        omega
/-- Without the one that has this number. -/
theorem plc_drop (d : α) : ∀ (L : List α) (n : Int), AscG f L → plcG f L n < L.length → f (L.getD (plcG f L n) d) = n → L.filter (fun x => decide (f x ≠ n)) = L.take (plcG f L n) ++ L.drop (plcG f L n + 1)
  | [], _, _, h, _ => by simp at h
  | a :: r, n, hs, h, he => by
    by_cases ha : f a < n
    · rw [plc_lt f a r n ha] at h he ⊢
      rw [List.filter_cons, if_pos (decide_eq_true (by omega)), plc_drop d r n (asc_tail f hs) (by simpa using h) he]
      rfl
    · rw [plc_ge f a r n hs ha] at h he ⊢
      have he0 : f a = n := he
      rw [List.filter_cons, if_neg (by rw [decide_eq_true_eq]; exact fun g => g he0)]
      show _ = r
      rw [List.filter_eq_self]
      intro x hx
      have := (List.pairwise_cons.1 hs).1 x hx
      exact decide_eq_true (by omega)
/-- Another one in the place of the one that has this number. -/
theorem plc_set (d : α) (y : α) : ∀ (L : List α) (n : Int), AscG f L → plcG f L n < L.length → f (L.getD (plcG f L n) d) = n → L.map (fun x => if f x = n then y else x) = L.set (plcG f L n) y
  | [], _, _, h, _ => by simp at h
  | a :: r, n, hs, h, he => by
    by_cases ha : f a < n
    · rw [plc_lt f a r n ha] at h he ⊢
      rw [List.map_cons, if_neg (by omega), plc_set d y r n (asc_tail f hs) (by simpa using h) he]
      rfl
    · rw [plc_ge f a r n hs ha] at h he ⊢
      have he0 : f a = n := he
      rw [List.map_cons, if_pos he0]
      show _ = y :: r
      congr 1
      conv => rhs; rw [← List.map_id r]
      refine List.map_congr_left fun x hx => ?_
      have := (List.pairwise_cons.1 hs).1 x hx
      rw [if_neg (by omega)]
      rfl
theorem asc_put : ∀ (L : List α) (x : α), AscG f L → (∀ y ∈ L, f y ≠ f x) → AscG f (L.take (plcG f L (f x)) ++ x :: L.drop (plcG f L (f x)))
  | [], x, _, _ => by simp [AscG, plcG]
  | a :: r, x, hs, hx => by
    have ha := hx a (by simp)
    have ih := asc_put r x (asc_tail f hs) (fun y hy => hx y (by simp [hy]))
    by_cases h : f a < f x
    · rw [plc_lt f a r _ h]
      rw [List.take_succ_cons, List.drop_succ_cons, List.cons_append]
      refine List.pairwise_cons.2 ⟨fun y hy => ?_, ih⟩
      rw [List.mem_append, List.mem_cons] at hy
      rcases hy with hy | rfl | hy
      · exact (List.pairwise_cons.1 hs).1 y (List.mem_of_mem_take hy)
      · exact h
      · exact (List.pairwise_cons.1 hs).1 y (List.mem_of_mem_drop hy)
    · rw [plc_ge f a r _ hs h, List.take_zero, List.drop_zero, List.nil_append]
      refine List.pairwise_cons.2 ⟨fun y hy => ?_, hs⟩
      rcases List.mem_cons.1 hy with rfl | hy
      · omega
      · have := (List.pairwise_cons.1 hs).1 y hy
        omega
end

/-! Files. -/
def AscA (L : List Au) : Prop := AscG Au.id L
def plcA (L : List Au) (id : Int) : Nat := plcG Au.id L id
theorem get_plc (L : List Au) (id : Int) (h : AscA L) : (getA L id).isSome = true ↔ plcA L id < L.length ∧ (L.getD (plcA L id) au0).id = id := by
  constructor
  · intro hs
    obtain ⟨a, ha⟩ := Option.isSome_iff_exists.1 hs
    obtain ⟨h1, h2⟩ := get_some L id a ha
    obtain ⟨h3, h4⟩ := plc_at Au.id au0 L id h a h1 h2
    exact ⟨h3, by show (L.getD (plcG Au.id L id) au0).id = id; rw [h4, h2]⟩
  · rintro ⟨h1, h2⟩
    obtain ⟨a, ha⟩ := get_mem L id ⟨L.getD (plcA L id) au0, by rw [List.getD_eq_getElem?_getD, List.getElem?_eq_getElem h1]; exact List.getElem_mem h1, h2⟩
    rw [ha]
    rfl
theorem get_plc_eq (L : List Au) (id : Int) (h : AscA L) (a : Au) (ha : getA L id = some a) : plcA L id < L.length ∧ L.getD (plcA L id) au0 = a ∧ a.id = id := by
  obtain ⟨h1, h2⟩ := get_some L id a ha
  obtain ⟨h3, h4⟩ := plc_at Au.id au0 L id h a h1 h2
  exact ⟨h3, h4, h2⟩
theorem ins_plc (a : Au) : ∀ L : List Au, AscA L → (∀ b ∈ L, b.id ≠ a.id) → insA L a = L.take (plcA L a.id) ++ a :: L.drop (plcA L a.id)
  | [], _, _ => rfl
  | x :: r, h, hn => by
    have hx1 := hn x (by simp)
    unfold insA
    by_cases hx : a.id < x.id
    · rw [if_pos hx]
      have : plcA (x :: r) a.id = 0 := plc_ge Au.id x r a.id h (by omega)
      rw [this]
      rfl
    · rw [if_neg hx]
      have ih := ins_plc a r (asc_tail Au.id h) (fun b hb => hn b (by simp [hb]))
      have : plcA (x :: r) a.id = plcA r a.id + 1 := plc_lt Au.id x r a.id (by omega)
      rw [this, ih]
      rfl
theorem wout_plc (L : List Au) (id : Int) (h : AscA L) (h1 : plcA L id < L.length) (h2 : (L.getD (plcA L id) au0).id = id) : woutA L id = L.take (plcA L id) ++ L.drop (plcA L id + 1) := plc_drop Au.id au0 L id h h1 h2
theorem with_plc (L : List Au) (a : Au) (h : AscA L) (h1 : plcA L a.id < L.length) (h2 : (L.getD (plcA L a.id) au0).id = a.id) : withA L a = L.set (plcA L a.id) a := plc_set Au.id au0 a L a.id h h1 h2
theorem right_asc (L : List Au) (h : rightA L = 0) : AscA L := (ones_out L none (right_out L h).2.1).1

/-! Above and Below ascend. -/
def AscI (L : List Int) : Prop := L.Pairwise (· < ·)
theorem insI_asc : ∀ (L : List Int) (n : Int), AscI L → n ∉ L → AscI (insI L n)
  | [], n, _, _ => List.pairwise_singleton _ _
  | x :: r, n, h, hn => by
    have h0 := h
    unfold AscI at h
    rw [List.pairwise_cons] at h
    unfold insI
    split
    · rename_i hx
      refine List.pairwise_cons.2 ⟨fun y hy => ?_, h0⟩
      rcases List.mem_cons.1 hy with rfl | hy
      · exact hx
      · have := h.1 y hy
        omega
    · rename_i hx
      have hne : x ≠ n := fun e => hn (by rw [e]; simp)
      refine List.pairwise_cons.2 ⟨fun y hy => ?_, insI_asc r n h.2 (fun g => hn (by simp [g]))⟩
      rcases (mem_ins13 n y r).1 hy with rfl | hy
      · omega
      · exact h.1 y hy
theorem putI_asc (L : List Int) (n : Int) (h : AscI L) : AscI (putI L n) := by
  unfold putI
  split
  · exact h
  · rename_i hn
    exact insI_asc L n h hn
theorem puts_asc : ∀ (ns L : List Int), AscI L → AscI (ns.foldl putI L)
  | [], _, h => h
  | n :: ns, L, h => puts_asc ns (putI L n) (putI_asc L n h)
theorem fold_asc (id : Int) : ∀ (l : List Au) (out : List Int), AscI out → AscI (l.foldl (stepA id) out)
  | [], _, h => h
  | a :: r, out, h => by
    refine fold_asc id r _ ?_
    unfold stepA
    split
    · exact h
    · exact puts_asc _ _ h
theorem above_asc (l : List Au) (id : Int) : AscI (aboveA l id) := by
  have : ∀ k, AscI (iterA l id k) := by
    intro k
    induction k with
    | zero => exact List.Pairwise.nil
    | succ k ih =>
      show AscI (roundA l id (iterA l id k))
      rw [round_fold]
      exact fold_asc id l _ ih
  exact this _
theorem below_asc (l : List Au) (id : Int) : AscI (belowA l id) := by
  have : ∀ (r : List Au) (out : List Int), AscI out → AscI (r.foldl (fun out a => if id ∈ aboveA l a.id then putI out a.id else out) out) := by
    intro r
    induction r with
    | nil => intro out h; exact h
    | cons a r ih =>
      intro out h
      rw [List.foldl_cons]
      refine ih _ ?_
      split
      · exact putI_asc _ _ h
      · exact h
  exact this l [] List.Pairwise.nil
theorem asc_same : ∀ A B : List Int, AscI A → AscI B → (∀ n, n ∈ A ↔ n ∈ B) → A = B
  | [], [], _, _, _ => rfl
  | [], b :: t, _, _, h => absurd ((h b).2 List.mem_cons_self) (by simp)
  | a :: s, [], _, _, h => absurd ((h a).1 List.mem_cons_self) (by simp)
  | a :: s, b :: t, hA, hB, h => by
    unfold AscI at hA hB
    rw [List.pairwise_cons] at hA hB
    have e : a = b := by
      rcases List.mem_cons.1 ((h a).1 List.mem_cons_self) with e | e
      · exact e
      · rcases List.mem_cons.1 ((h b).2 List.mem_cons_self) with e2 | e2
        · exact e2.symm
        · have h1 := hB.1 a e
          have h2 := hA.1 b e2
          omega
    subst e
    congr 1
    refine asc_same s t hA.2 hB.2 fun n => ⟨fun hn => ?_, fun hn => ?_⟩
    · rcases List.mem_cons.1 ((h n).1 (List.mem_cons_of_mem _ hn)) with rfl | h2
      · exact absurd (hA.1 n hn) (by omega)
      · exact h2
    · rcases List.mem_cons.1 ((h n).2 (List.mem_cons_of_mem _ hn)) with rfl | h2
      · exact absurd (hB.1 n hn) (by omega)
      · exact h2

/-! What is reached step by step. -/
/-- f says which numbers one step or more lead to. -/
structure Lst (F : Int → List Int) (id : Int) (f : Int → Bool) : Prop where
  first : ∀ y ∈ F id, f y = true
  next : ∀ x, f x = true → ∀ y ∈ F x, f y = true
  least : ∀ T : Int → Prop, (∀ y ∈ F id, T y) → (∀ x, T x → ∀ y ∈ F x, T y) → ∀ x, f x = true → T x
def upF (L : List Au) (x : Int) : List Int := match getA L x with | some a => a.above | none => []
theorem up_of (L : List Au) (h : AscA L) (a : Au) (ha : a ∈ L) : upF L a.id = a.above := by
  unfold upF
  rw [get_one L h a ha]
theorem up_mem (L : List Au) (x y : Int) (hy : y ∈ upF L x) : ∃ a ∈ L, a.id = x ∧ y ∈ a.above := by
  unfold upF at hy
  cases e : getA L x with
  | none => rw [e] at hy; cases hy
  | some a =>
    rw [e] at hy
    obtain ⟨h1, h2⟩ := get_some L x a e
    exact ⟨a, h1, h2, hy⟩
theorem up_above (L : List Au) (h : AscA L) (id : Int) (f : Int → Bool) (hf : Lst (upF L) id f) (x : Int) : f x = true ↔ x ∈ aboveA L id := by
  constructor
  · refine hf.least (fun x => x ∈ aboveA L id) (fun y hy => ?_) (fun z hz y hy => ?_) x
    · obtain ⟨a, ha, he, hm⟩ := up_mem L id y hy
      exact above_closed L id a ha (.inl he) y hm
    · obtain ⟨a, ha, he, hm⟩ := up_mem L z y hy
      exact above_closed L id a ha (.inr (by rw [he]; exact hz)) y hm
  · intro hx
    have := iter_within L id ((aboveA L id).filter f) (fun a ha hr y hy => ?_) (L.length + 1) x hx
    · exact (List.mem_filter.1 this).2
    · rw [List.mem_filter]
      rcases hr with hr | hr
      · exact ⟨above_closed L id a ha (.inl hr) y hy, hf.first y (by rw [← hr, up_of L h a ha]; exact hy)⟩
      · rw [List.mem_filter] at hr
        exact ⟨above_closed L id a ha (.inr hr.1) y hy, hf.next a.id hr.2 y (by rw [up_of L h a ha]; exact hy)⟩
def downF (L : List Au) (x : Int) : List Int := L.flatMap fun a => (a.above.filter fun n => decide (n = x)).map fun _ => a.id
theorem down_mem (L : List Au) (x y : Int) : y ∈ downF L x ↔ ∃ a ∈ L, a.id = y ∧ x ∈ a.above := by
  unfold downF
  rw [List.mem_flatMap]
  constructor
  · rintro ⟨a, ha, hy⟩
    rw [List.mem_map] at hy
    obtain ⟨n, hn, rfl⟩ := hy
    rw [List.mem_filter, decide_eq_true_eq] at hn
    exact ⟨a, ha, rfl, by rw [← hn.2]; exact hn.1⟩
  · rintro ⟨a, ha, rfl, hx⟩
    exact ⟨a, ha, List.mem_map.2 ⟨x, List.mem_filter.2 ⟨hx, decide_eq_true rfl⟩, rfl⟩⟩
theorem down_below (L : List Au) (h : AscA L) (id : Int) (f : Int → Bool) (hf : Lst (downF L) id f) (x : Int) : f x = true ↔ x ∈ belowA L id := by
  rw [mem_below]
  constructor
  · refine hf.least (fun x => ∃ a ∈ L, a.id = x ∧ id ∈ aboveA L a.id) (fun y hy => ?_) (fun z hz y hy => ?_) x
    · obtain ⟨a, ha, he, hm⟩ := (down_mem L id y).1 hy
      exact ⟨a, ha, he, above_closed L a.id a ha (.inl rfl) id hm⟩
    · obtain ⟨b, hb, he, hm⟩ := hz
      obtain ⟨a, ha, he2, hm2⟩ := (down_mem L z y).1 hy
      refine ⟨a, ha, he2, above_trans L a.id b.id id ?_ hm⟩
      rw [he]
      exact above_closed L a.id a ha (.inl rfl) z hm2
  · rintro ⟨a, ha, rfl, hx⟩
    have key := iter_within L a.id ((aboveA L a.id).filter fun y => !(decide (y = id) || f y) || f a.id) (fun b hb hr y hy => ?_) (L.length + 1) id hx
    · have := (List.mem_filter.1 key).2
      simpa using this
    · rw [List.mem_filter]
      rcases hr with hr | hr
      · refine ⟨above_closed L a.id b hb (.inl hr) y hy, ?_⟩
        have hba : b = a := by
          have h1 := get_one L h a ha
          have h2 := get_one L h b hb
          rw [hr, h1] at h2
          exact (Option.some.inj h2).symm
        subst hba
        by_cases hy2 : y = id
        · subst hy2
          have := hf.first b.id ((down_mem L y b.id).2 ⟨b, hb, rfl, hy⟩)
          simp [this]
        · cases hfy : f y with
          | false => simp [hy2]
          | true =>
            have := hf.next y hfy b.id ((down_mem L y b.id).2 ⟨b, hb, rfl, hy⟩)
            simp [this]
      · rw [List.mem_filter] at hr
        refine ⟨above_closed L a.id b hb (.inr hr.1) y hy, ?_⟩
        have h3 := hr.2
        cases hfa : f a.id with
        | true => simp
        | false =>
          rw [hfa] at h3
          have hb2 : ¬ b.id = id ∧ f b.id = false := by simpa using h3
          by_cases hy2 : y = id
          · subst hy2
            have := hf.first b.id ((down_mem L y b.id).2 ⟨b, hb, rfl, hy⟩)
            rw [hb2.2] at this
            cases this
          · cases hfy : f y with
            | false => simp [hy2]
            | true =>
              have := hf.next y hfy b.id ((down_mem L y b.id).2 ⟨b, hb, rfl, hy⟩)
              rw [hb2.2] at this
              cases this
end

section
/-! A table that is filled entry by entry: the entries with the last one first; what it holds, and how many keys it has. -/
section
variable {κ ν : Type} [DecidableEq κ]
def updE (s : (κ → Option ν) × Nat) (e : κ × ν) : (κ → Option ν) × Nat := (fun k => if k = e.1 then some e.2 else s.1 k, if (s.1 e.1).isSome = true then s.2 else s.2 + 1)
def mapR : List (κ × ν) → (κ → Option ν) × Nat
  | [] => (fun _ => none, 0)
  | e :: r => updE (mapR r) e
theorem mapR_has : ∀ (R : List (κ × ν)) (k : κ), ((mapR R).1 k).isSome = true ↔ k ∈ R.map (·.1)
  | [], k => by simp [mapR]
  | e :: r, k => by
    show (if k = e.1 then some e.2 else (mapR r).1 k).isSome = true ↔ _
    rw [List.map_cons, List.mem_cons, ← mapR_has r k]
    by_cases h : k = e.1
    · rw [if_pos h]
      simp [h]
    · rw [if_neg h]
      simp [h]
theorem mapR_mem : ∀ (R : List (κ × ν)) (k : κ) (v : ν), (mapR R).1 k = some v → (k, v) ∈ R
  | [], k, v, h => by simp [mapR] at h
  | e :: r, k, v, h => by
    have h' : (if k = e.1 then some e.2 else (mapR r).1 k) = some v := h
    by_cases hk : k = e.1
    · rw [if_pos hk] at h'
      obtain rfl := Option.some.inj h'
      rw [hk]
      simp
    · rw [if_neg hk] at h'
      exact List.mem_cons_of_mem _ (mapR_mem r k v h')
theorem mapR_of : ∀ (R : List (κ × ν)) (k : κ) (v : ν), (R.map (·.1)).Nodup → (k, v) ∈ R → (mapR R).1 k = some v
  | [], k, v, _, h => by cases h
  | e :: r, k, v, hn, h => by
    rw [List.map_cons, List.nodup_cons] at hn
    show (if k = e.1 then some e.2 else (mapR r).1 k) = some v
    rcases List.mem_cons.1 h with rfl | h
    · rw [if_pos rfl]
    · have : k ≠ e.1 := fun he => hn.1 (by rw [← he]; exact List.mem_map.2 ⟨(k, v), h, rfl⟩)
      rw [if_neg this]
      exact mapR_of r k v hn.2 h
theorem mapR_le : ∀ R : List (κ × ν), (mapR R).2 ≤ R.length
  | [] => Nat.le_refl _
  | e :: r => by
    have := mapR_le r
    show (if ((mapR r).1 e.1).isSome = true then (mapR r).2 else (mapR r).2 + 1) ≤ r.length + 1
    split <;> omega
theorem mapR_all : ∀ R : List (κ × ν), (mapR R).2 = R.length ↔ (R.map (·.1)).Nodup
  | [] => by simp [mapR]
  | e :: r => by
    have h0 := mapR_le r
    have h1 := mapR_has r e.1
    show (if ((mapR r).1 e.1).isSome = true then (mapR r).2 else (mapR r).2 + 1) = r.length + 1 ↔ _
    rw [List.map_cons, List.nodup_cons, ← mapR_all r, ← h1]
    by_cases h : ((mapR r).1 e.1).isSome = true
    · rw [if_pos h]
      constructor
      · intro g; omega
      · intro g; exact absurd h g.1
    · rw [if_neg h]
      constructor
      · intro g; exact ⟨h, by omega⟩
      · intro g; omega
end

/-- The entries of an authority: its headings' keys, each with its number and whether it is the preferred form. -/
def entH (a : Au) (k : Nat) : List (List UInt8) → List ((Int × List UInt8) × (Int × Bool))
  | [] => []
  | h :: r => ((a.kind, normX h), (a.id, decide (k = 0))) :: entH a (k + 1) r
def entA (a : Au) := entH a 0 (hdsX a)
def entX (L : List Au) := L.flatMap entA
theorem entH_len (a : Au) : ∀ (k : Nat) (l : List (List UInt8)), (entH a k l).length = l.length
  | _, [] => rfl
  | k, h :: r => by
    show (entH a (k + 1) r).length + 1 = r.length + 1
    rw [entH_len a (k + 1) r]
theorem entH_keys (a : Au) : ∀ (k : Nat) (l : List (List UInt8)), (entH a k l).map (·.1) = l.map fun h => (a.kind, normX h)
  | _, [] => rfl
  | k, h :: r => by
    show _ :: (entH a (k + 1) r).map (·.1) = _ :: r.map _
    rw [entH_keys a (k + 1) r]
theorem entX_keys : ∀ L : List Au, (entX L).map (·.1) = keysX L
  | [] => rfl
  | a :: r => by
    have ih := entX_keys r
    unfold entX keysX at ih ⊢
    rw [List.flatMap_cons, List.flatMap_cons, List.map_append, ih]
    congr 1
    exact entH_keys a 0 (hdsX a)
theorem entH_at (a : Au) : ∀ (k : Nat) (l : List (List UInt8)) (j : Nat), j < l.length → (entH a k l)[j]? = some ((a.kind, normX (l.getD j [])), (a.id, decide (k + j = 0)))
  | k, [], j, h => by simp at h
  | k, h :: r, 0, _ => rfl
  | k, h :: r, j + 1, hj => by
    have := entH_at a (k + 1) r j (by simpa using hj)
    show (entH a (k + 1) r)[j]? = _
    rw [this, show k + 1 + j = k + (j + 1) by omega]
    rfl
theorem entA_take (a : Au) (j : Nat) (hj : j < (hdsX a).length) : (entA a).take (j + 1) = (entA a).take j ++ [((a.kind, normX ((hdsX a).getD j [])), (a.id, decide (j = 0)))] := by
  have h := entH_at a 0 (hdsX a) j hj
  rw [Nat.zero_add] at h
  rw [List.take_add_one]
  unfold entA
  rw [h]
  rfl
theorem entA_len (a : Au) : (entA a).length = (hdsX a).length := entH_len a 0 _
theorem nodup_rev {α : Type} (l : List α) : l.reverse.Nodup ↔ l.Nodup := by
  unfold List.Nodup
  rw [List.pairwise_reverse]
  exact ⟨fun h => h.imp (fun g => Ne.symm g), fun h => h.imp (fun g => Ne.symm g)⟩
/-- Whether all keys differ, by counting. -/
theorem entX_nodup (L : List Au) : (mapR (entX L).reverse).2 = (entX L).length ↔ (keysX L).Nodup := by
  have := mapR_all (entX L).reverse
  rw [List.length_reverse] at this
  rw [this, List.map_reverse, entX_keys]
  exact nodup_rev _
theorem entH_no (a : Au) (n : List UInt8) (v : Int × Bool) (kd : Int) : ∀ (k : Nat) (l : List (List UInt8)), findK n l = none → ((kd, n), v) ∉ entH a k l
  | _, [], _ => by simp [entH]
  | k, h :: r, hf => by
    have hf' := List.findIdx?_eq_none_iff.1 hf
    have h1 := hf' h (by simp)
    have h2 : findK n r = none := List.findIdx?_eq_none_iff.2 fun x hx => hf' x (by simp [hx])
    intro hm
    rcases List.mem_cons.1 hm with e | hm
    · have := (Prod.mk.inj (Prod.mk.inj e).1).2
      rw [← this] at h1
      simp at h1
    · exact entH_no a n v kd (k + 1) r h2 hm
theorem entH_kind (a : Au) (n : List UInt8) (v : Int × Bool) (kd : Int) (hk : a.kind ≠ kd) : ∀ (k : Nat) (l : List (List UInt8)), ((kd, n), v) ∉ entH a k l
  | _, [] => by simp [entH]
  | k, h :: r => by
    intro hm
    rcases List.mem_cons.1 hm with e | hm
    · exact hk (Prod.mk.inj (Prod.mk.inj e).1).1.symm
    · exact entH_kind a n v kd hk (k + 1) r hm
theorem findK_some (n : List UInt8) (l : List (List UInt8)) (k : Nat) (h : findK n l = some k) : k < l.length ∧ normX (l.getD k []) = n := by
  obtain ⟨h1, h2⟩ := List.findIdx?_eq_some_iff_getElem.1 h
  refine ⟨h1, ?_⟩
  rw [List.getD_eq_getElem?_getD, List.getElem?_eq_getElem h1]
  exact eq_of_beq h2.1
/-- What the table says of a key is what is found. -/
theorem find_tab (kd : Int) (n : List UInt8) : ∀ L : List Au, (keysX L).Nodup → findRd L kd n = match (mapR (entX L).reverse).1 (kd, n) with | some v => (v.1, v.2, true) | none => (0, false, false) := by
  intro L hn
  have hfind : ∀ M : List Au, (∃ v, ((kd, n), v) ∈ entX M ∧ findRd M kd n = (v.1, v.2, true)) ∨ ((∀ v, ((kd, n), v) ∉ entX M) ∧ findRd M kd n = (0, false, false)) := by
    intro M
    induction M with
    | nil => exact .inr ⟨(fun v h => by cases h), rfl⟩
    | cons a r ih =>
      unfold findRd
      have emem : ∀ e, e ∈ entX (a :: r) ↔ e ∈ entA a ∨ e ∈ entX r := fun e => by unfold entX; rw [List.flatMap_cons, List.mem_append]
      have irest : (∀ v, ((kd, n), v) ∉ entA a) → (∃ v, ((kd, n), v) ∈ entX (a :: r) ∧ findRd r kd n = (v.1, v.2, true)) ∨ ((∀ v, ((kd, n), v) ∉ entX (a :: r)) ∧ findRd r kd n = (0, false, false)) := by
        intro hno
        rcases ih with ⟨v, h1, h2⟩ | ⟨h1, h2⟩
        · exact .inl ⟨v, (emem _).2 (.inr h1), h2⟩
        · refine .inr ⟨fun v hv => ?_, h2⟩
          rcases (emem _).1 hv with h | h
          · exact hno v h
          · exact h1 v h
      by_cases hk : a.kind = kd
      · rw [if_pos hk]
        cases e : findK n (hdsX a) with
        | some k =>
          obtain ⟨h1, h2⟩ := findK_some n _ k e
          refine .inl ⟨(a.id, decide (k = 0)), (emem _).2 (.inl ?_), rfl⟩
          have := entH_at a 0 (hdsX a) k h1
          rw [h2, hk, Nat.zero_add] at this
          exact List.mem_of_getElem? this
        | none => exact irest (fun v => entH_no a n v kd 0 _ e)
      · rw [if_neg hk]
        exact irest (fun v => entH_kind a n v kd hk 0 _)
  have hnr : ((entX L).reverse.map (·.1)).Nodup := by
    rw [List.map_reverse, entX_keys]
    exact (nodup_rev _).2 hn
  rcases hfind L with ⟨v, h1, h2⟩ | ⟨h1, h2⟩
  · rw [mapR_of _ (kd, n) v hnr (List.mem_reverse.2 h1), h2]
  · cases e : (mapR (entX L).reverse).1 (kd, n) with
    | none => exact h2
    | some v => exact absurd (List.mem_reverse.1 (mapR_mem _ _ v e)) (h1 v)

/-! Turning Above. -/
def plcI (l : List Int) (n : Int) : Nat := plcG (fun x => x) l n
theorem ascI_G (l : List Int) : AscI l ↔ AscG (fun x => x) l := Iff.rfl
def wtI (l : List Int) (n : Int) : List Int := l.take (plcI l n) ++ l.drop (plcI l n + 1)
def inI (l : List Int) (n : Int) : List Int := l.take (plcI l n) ++ n :: l.drop (plcI l n)
theorem mem_plcI (l : List Int) (n : Int) (h : AscI l) : n ∈ l ↔ plcI l n < l.length ∧ l.getD (plcI l n) 0 = n := by
  constructor
  · intro hm
    exact plc_at (fun x => x) 0 l n h n hm rfl
  · rintro ⟨h1, h2⟩
    rw [← h2, List.getD_eq_getElem?_getD, List.getElem?_eq_getElem h1]
    exact List.getElem_mem h1
theorem wtI_eq (l : List Int) (n : Int) (h : AscI l) (hm : n ∈ l) : wtI l n = l.filter fun x => decide (x ≠ n) := by
  obtain ⟨h1, h2⟩ := (mem_plcI l n h).1 hm
  exact (plc_drop (fun x => x) 0 l n h h1 h2).symm
theorem wtI_asc (l : List Int) (n : Int) (h : AscI l) (hm : n ∈ l) : AscI (wtI l n) := by
  rw [wtI_eq l n h hm]
  exact List.Pairwise.filter _ h
theorem inI_asc (l : List Int) (n : Int) (h : AscI l) (hm : n ∉ l) : AscI (inI l n) := asc_put (fun x => x) l n h (fun y hy e => hm (by rw [← e]; exact hy))
theorem mem_inI (l : List Int) (n y : Int) : y ∈ inI l n ↔ y = n ∨ y ∈ l := by
  unfold inI
  rw [List.mem_append, List.mem_cons]
  have := List.take_append_drop (plcI l n) l
  constructor
  · rintro (h | h | h)
    · exact .inr (List.mem_of_mem_take h)
    · exact .inl h
    · exact .inr (List.mem_of_mem_drop h)
  · rintro (h | h)
    · exact .inr (.inl h)
    · rw [← this, List.mem_append] at h
      rcases h with h | h
      · exact .inl h
      · exact .inr (.inr h)
def turnL (into gone id : Int) (l : List Int) : List Int := if gone ∈ l then (if into ∈ wtI l gone ∨ id = into then wtI l gone else inI (wtI l gone) into) else l
def turnP (into gone : Int) (x : Au) : Au := { x with above := turnL into gone x.id x.above }
theorem mem_turn (into gone id y : Int) : ∀ (l out : List Int), y ∈ l.foldl (fun out n => if (if n = gone then into else n) ≠ id then putI out (if n = gone then into else n) else out) out ↔ y ∈ out ∨ (y ≠ id ∧ ∃ n ∈ l, (if n = gone then into else n) = y)
  | [], out => by simp
  | n :: r, out => by
    rw [List.foldl_cons, mem_turn into gone id y r]
    obtain ⟨m, hm⟩ : ∃ m, (if n = gone then into else n) = m := ⟨_, rfl⟩
    rw [hm]
    have hex : (∃ k ∈ n :: r, (if k = gone then into else k) = y) ↔ m = y ∨ ∃ k ∈ r, (if k = gone then into else k) = y := by
      constructor
      · rintro ⟨k, hk, e⟩
        rcases List.mem_cons.1 hk with rfl | hk
        · exact .inl (by rw [← hm]; exact e)
        · exact .inr ⟨k, hk, e⟩
      · rintro (e | ⟨k, hk, e⟩)
        · exact ⟨n, by simp, by rw [hm]; exact e⟩
        · exact ⟨k, by simp [hk], e⟩
    rw [hex]
    by_cases h : m ≠ id
    · rw [if_pos h, mem_put]
      constructor
      · rintro ((rfl | h1) | ⟨h1, h2⟩)
        · exact .inr ⟨h, .inl rfl⟩
        · exact .inl h1
        · exact .inr ⟨h1, .inr h2⟩
      · rintro (h1 | ⟨h1, h2 | h2⟩)
        · exact .inl (.inr h1)
        · exact .inl (.inl h2.symm)
        · exact .inr ⟨h1, h2⟩
    · rw [if_neg h]
      constructor
      · rintro (h1 | ⟨h1, h2⟩)
        · exact .inl h1
        · exact .inr ⟨h1, .inr h2⟩
      · rintro (h1 | ⟨h1, h2 | h2⟩)
        · exact .inl h1
        · exact absurd (by rw [← h2] at h1; exact h1) h
        · exact .inr ⟨h1, h2⟩
theorem turn_asc (into gone id : Int) : ∀ (l out : List Int), AscI out → AscI (l.foldl (fun out n => if (if n = gone then into else n) ≠ id then putI out (if n = gone then into else n) else out) out)
  | [], _, h => h
  | n :: r, out, h => by
    refine turn_asc into gone id r _ ?_
    show AscI (if (if n = gone then into else n) ≠ id then putI out (if n = gone then into else n) else out)
    by_cases hm : (if n = gone then into else n) ≠ id
    · rw [if_pos hm]
      exact putI_asc _ _ h
    · rw [if_neg hm]
      exact h
theorem turn_eq (into gone : Int) (x : Au) (h : AscI x.above) (hx : x.id ∉ x.above) : turnA into gone x = turnP into gone x := by
  unfold turnA turnP
  congr 1
  refine asc_same _ _ (turn_asc into gone x.id _ _ List.Pairwise.nil) ?_ fun y => ?_
  · unfold turnL
    by_cases hg : gone ∈ x.above
    · rw [if_pos hg]
      split
      · exact wtI_asc _ _ h hg
      · rename_i h2
        exact inI_asc _ _ (wtI_asc _ _ h hg) (fun g => h2 (.inl g))
    · rw [if_neg hg]
      exact h
  · rw [mem_turn]
    unfold turnL
    have hself : ∀ y, y ∈ x.above → y ≠ x.id := fun y hy e => hx (by rw [← e]; exact hy)
    by_cases hg : gone ∈ x.above
    · rw [if_pos hg]
      have hmw : ∀ y, y ∈ wtI x.above gone ↔ y ∈ x.above ∧ y ≠ gone := fun y => by rw [wtI_eq _ _ h hg, List.mem_filter, decide_eq_true_eq]
      have hright : (y ∈ (if into ∈ wtI x.above gone ∨ x.id = into then wtI x.above gone else inI (wtI x.above gone) into)) ↔ (y ∈ x.above ∧ y ≠ gone) ∨ (y = into ∧ x.id ≠ into) := by
        by_cases h2 : into ∈ wtI x.above gone ∨ x.id = into
        · rw [if_pos h2, hmw]
          constructor
          · exact .inl
          · rintro (g | ⟨rfl, g⟩)
            · exact g
            · rcases h2 with h2 | h2
              · exact (hmw _).1 h2
              · exact absurd h2 g
        · rw [if_neg h2, mem_inI, hmw]
          constructor
          · rintro (rfl | g)
            · exact .inr ⟨rfl, fun e => h2 (.inr e)⟩
            · exact .inl g
          · rintro (g | ⟨rfl, _⟩)
            · exact .inr g
            · exact .inl rfl
      rw [hright]
      constructor
      · rintro (h1 | ⟨h1, n, hn, e⟩)
        · cases h1
        · by_cases hng : n = gone
          · rw [if_pos hng] at e
            exact .inr ⟨e.symm, fun g => h1 (by rw [← e, g])⟩
          · rw [if_neg hng] at e
            subst e
            exact .inl ⟨hn, hng⟩
      · rintro (⟨h1, h2⟩ | ⟨rfl, h2⟩)
        · exact .inr ⟨hself y h1, y, h1, by rw [if_neg h2]⟩
        · exact .inr ⟨fun e => h2 e.symm, gone, hg, by rw [if_pos rfl]⟩
    · rw [if_neg hg]
      constructor
      · rintro (h1 | ⟨h1, n, hn, e⟩)
        · cases h1
        · rw [if_neg (fun g => hg (by rw [← g]; exact hn))] at e
          rw [← e]
          exact hn
      · intro hy
        exact .inr ⟨hself y hy, y, hy, by rw [if_neg (fun g => hg (by rw [← g]; exact hy))]⟩
end

section
open Go.RowKit Go.PlainAid
set_option maxHeartbeats 1000000 in
theorem isNaN_int (x : Int) (w : World) : Calls Tryz.prog 138 #[.int .i64 x] w fun e w' => e = .returned (.bool false) ∧ w' = w := by
  go_enter Tryz.func138, Tryz.ntmps138
  go_wp2
  go_ret
  exact ⟨by simp, rfl⟩
def cmpZ (x y : Int) : Int := if x < y then -1 else if y < x then 1 else 0
set_option maxHeartbeats 4000000 in
theorem cmp_any (x y : Int) (w : World) : Calls Tryz.prog 154 #[.int .i64 x, .int .i64 y] w fun e w' => e = .returned (.int .i64 (cmpZ x y)) ∧ w' = w := by
  have c1 := isNaN_int x w
  have c2 := isNaN_int y w
  unfold cmpZ
  by_cases h1 : x < y
  · rw [if_pos h1]
    go_enter Tryz.func154, Tryz.ntmps154
    go_wp2_with fail
    refine c1.mono ?_
    rintro e w1 ⟨rfl, rfl⟩
    go_wp2_with fail
    refine c2.mono ?_
    rintro e w1 ⟨rfl, rfl⟩
    go_wp2
    go_ret
    exact ⟨rfl, rfl⟩
  · rw [if_neg h1]
    by_cases h2 : y < x
    · rw [if_pos h2]
      go_enter Tryz.func154, Tryz.ntmps154
      go_wp2_with fail
      refine c1.mono ?_
      rintro e w1 ⟨rfl, rfl⟩
      go_wp2_with fail
      refine c2.mono ?_
      rintro e w1 ⟨rfl, rfl⟩
      go_wp2
      go_ret
      exact ⟨rfl, rfl⟩
    · rw [if_neg h2]
      go_enter Tryz.func154, Tryz.ntmps154
      go_wp2_with fail
      refine c1.mono ?_
      rintro e w1 ⟨rfl, rfl⟩
      go_wp2_with fail
      refine c2.mono ?_
      rintro e w1 ⟨rfl, rfl⟩
      go_wp2
      go_ret
      exact ⟨rfl, rfl⟩
set_option maxHeartbeats 4000000 in
theorem placeF_any (y : Int) (x1 x2 x3 x4 : Value) (id : Int) (w : World) : Calls Tryz.prog 153 #[.agg #[.int .i64 y, x1, x2, x3, x4], .int .i64 id] w fun e w' => e = .returned (.int .i64 (cmpZ y id)) ∧ Below w.heap.size w w' := by
  obtain ⟨W0, hW0⟩ : ∃ W, w.alloc (.cells #[.int .i64 y, x1, x2, x3, x4] 56) = W := ⟨_, rfl⟩
  have b0 : Below w.heap.size w W0 := by rw [← hW0]; exact (Below.refl _ _).alloc (Nat.le_refl _) _
  have k0 : W0.cell? ⟨w.heap.size, 0, none⟩ = some (.int .i64 y) := by rw [← hW0]; simp
  have c1 := cmp_any y id W0
  have HW0 := Lib.hid hW0
  clear hW0
  go_enter Tryz.func153, Tryz.ntmps153
  go_upto_region 1 with fail
  rw [HW0.out]
  go_wp2_with fail
  refine c1.mono ?_
  rintro e w1 ⟨rfl, hw1⟩
  rw [hw1]
  go_wp2
  go_ret
  exact ⟨rfl, b0⟩
theorem cmpZ_lt (x y : Int) : cmpZ x y < 0 ↔ x < y := by unfold cmpZ; split <;> (try split) <;> omega
theorem cmpZ_eq (x y : Int) : cmpZ x y = 0 ↔ x = y := by unfold cmpZ; split <;> (try split) <;> omega

set_option maxHeartbeats 16000000 in
set_option maxRecDepth 100000 in
theorem search_any (v : Value) (L : List Au) (id : Int) (w : World) (hv : AL v L w) (hs : AscA L) (hz : L.length ≤ 1000000) :
    Calls Tryz.prog 152 #[v, .int .i64 id, .func (.func 153) #[] #[]] w fun e w' => e = .returned (.tuple #[.int .i64 (plcA L id : Nat), .bool (getA L id).isSome]) ∧ Below w.heap.size w w' := by
  have HV := Lib.hid hv
  have HS := Lib.hid hs
  obtain ⟨va, vc, rfl, hc1, hc2⟩ := hv.length
  unfold maxLen at hc2
  obtain ⟨n, hn⟩ : ∃ n, L.length = n := ⟨_, rfl⟩
  have HN := Lib.hid hn
  rw [hn] at HV hc1 hz ⊢
  obtain ⟨k, hk⟩ : ∃ k, plcA L id = k := ⟨_, rfl⟩
  obtain ⟨b, hb⟩ : ∃ b, (getA L id).isSome = b := ⟨_, rfl⟩
  have HB : RowKit.Hid (b = decide (k < n ∧ (L.getD k au0).id = id)) := by
    have := get_plc L id hs
    unfold RowKit.Hid
    rw [hb, hk, hn] at this
    rw [Bool.eq_iff_iff, this, decide_eq_true_iff]
  have HKe := Lib.hid (fun (m : Nat) (h0 : m ≤ n) (h1 : ∀ t, t < m → (L.getD t au0).id < id) (h2 : ∀ t, m ≤ t → t < n → id ≤ (L.getD t au0).id) => hk.symm.trans (plc_eq Au.id au0 L id m (by rw [hn]; exact h0) h1 (by rw [hn]; exact h2)))
  have HM : RowKit.Hid (∀ a b, a ≤ b → b < n → (L.getD b au0).id < id → (L.getD a au0).id < id) := by
    intro a b hab hbn h
    rw [← hn] at hbn
    rcases Nat.lt_or_eq_of_le hab with h1 | rfl
    · have := List.pairwise_iff_getElem.1 hs a b (by omega) hbn h1
      rw [← getD_at13 L a (by omega), ← getD_at13 L b hbn] at this
      omega
    · exact h
  rw [hk, hb]
  clear hs hv hn hk hb
  go_enter Tryz.func152, Tryz.ntmps152
  go_wp2
  go_loopg [9, 10] n (fun kx s9 s10 wr => ∃ lo hi : Nat, s9 = .int .i64 lo ∧ s10 = .int .i64 hi ∧ lo ≤ hi ∧ hi ≤ n ∧ hi - lo ≤ kx ∧ RowKit.Hid (Below w.heap.size w wr) ∧
    RowKit.Hid ((∀ t, t < lo → (L.getD t au0).id < id) ∧ (∀ t, hi ≤ t → t < n → id ≤ (L.getD t au0).id)))
  case atStart => exact ⟨0, n, rfl, rfl, Nat.zero_le _, Nat.le_refl _, by omega, Below.refl _ _, ⟨fun t ht => absurd ht (Nat.not_lt_zero _), fun t h1 h2 => by omega⟩⟩
  case round =>
    obtain ⟨lo, hi, rfl, rfl, hlh, hin, hg, HBw, I⟩ := hrel
    by_cases hlt : lo < hi
    · obtain ⟨g, o, cap', s, t, he, hgl, c0, c1, c2, c3, c4, hq⟩ := (HV.out.after HBw.out).at ((lo + hi) / 2) (by rw [HN.out]; omega)
      obtain ⟨rfl, -, hcp⟩ := Value.slice.inj he
      obtain ⟨as2, cs2, hs2, -, -⟩ := hq.1.length
      obtain ⟨at2, ct2, ht2, -⟩ := hq.2
      subst hs2 ht2
      have cP := Lib.hid (fun x1 x2 x3 x4 => placeF_any (L.getD ((lo + hi) / 2) au0).id x1 x2 x3 x4 id wr)
      have HY : RowKit.Hid (∃ y, (L.getD ((lo + hi) / 2) au0).id = y ∧ y = (L.getD ((lo + hi) / 2) au0).id) := ⟨_, rfl, rfl⟩
      obtain ⟨y, hy, hy2⟩ := HY.out
      rw [hy] at c0 cP
      have Y := Lib.hid hy
      clear he hcp hq hy hy2 HY
      generalize (L.getD ((lo + hi) / 2) au0).kind = yk at *
      generalize S (L.getD ((lo + hi) / 2) au0).heading = yh at *
      generalize (L.getD ((lo + hi) / 2) au0).see.length = ys at *
      generalize (L.getD ((lo + hi) / 2) au0).above.length = ya at *
      have HL := Lib.hid hlt
      by_cases hyx : y < id
      · have hd : decide (cmpZ y id < 0) = true := decide_eq_true ((cmpZ_lt y id).2 hyx)
        have hd2 : cmpZ y id < 0 := (cmpZ_lt y id).2 hyx
        generalize cmpZ y id = z at *
        go_wp2_with fail
        refine (cP.out _ _ _ _).mono ?_
        rintro e w1 ⟨rfl, hb1⟩
        have HB1 := Lib.hid (HBw.out.trans (hb1.mono HBw.out.size))
        clear hb1
        go_wp2
        go_roundg (hi - ((lo + hi) / 2 + 1))
        case measure => omega
        case rel =>
          have I2 : RowKit.Hid ((∀ t, t < (lo + hi) / 2 + 1 → (L.getD t au0).id < id) ∧ (∀ t, hi ≤ t → t < n → id ≤ (L.getD t au0).id)) := ⟨fun t ht => HM.out t ((lo + hi) / 2) (by omega) (by omega) (by rw [Y.out]; exact hyx), I.out.2⟩
          exact ⟨(lo + hi) / 2 + 1, hi, by rw [show ((lo : Int) + (hi : Int)) / 2 + 1 = (((lo + hi) / 2 + 1 : Nat) : Int) by omega], rfl, by omega, hin, Nat.le_refl _, HB1, I2⟩
      · have hd : decide (cmpZ y id < 0) = false := decide_eq_false (fun h => hyx ((cmpZ_lt y id).1 h))
        have hd2 : ¬ cmpZ y id < 0 := fun h => hyx ((cmpZ_lt y id).1 h)
        generalize cmpZ y id = z at *
        go_wp2_with fail
        refine (cP.out _ _ _ _).mono ?_
        rintro e w1 ⟨rfl, hb1⟩
        have HB1 := Lib.hid (HBw.out.trans (hb1.mono HBw.out.size))
        clear hb1
        go_wp2
        go_roundg ((lo + hi) / 2 - lo)
        case measure => omega
        case rel =>
          have I2 : RowKit.Hid ((∀ t, t < lo → (L.getD t au0).id < id) ∧ (∀ t, (lo + hi) / 2 ≤ t → t < n → id ≤ (L.getD t au0).id)) := ⟨I.out.1, fun t ht htn => Int.not_lt.1 fun h => by have := HM.out ((lo + hi) / 2) t ht htn h; rw [Y.out] at this; omega⟩
          exact ⟨lo, (lo + hi) / 2, rfl, by rw [show ((lo : Int) + (hi : Int)) / 2 = (((lo + hi) / 2 : Nat) : Int) by omega], by omega, by omega, Nat.le_refl _, HB1, I2⟩
    · obtain rfl : hi = lo := by omega
      obtain rfl : k = hi := HKe.out hi hin I.out.1 I.out.2
      by_cases hkn : k < n
      · obtain ⟨g, o, cap', s, t, he, hgl, c0, c1, c2, c3, c4, hq⟩ := (HV.out.after HBw.out).at k (by rw [HN.out]; omega)
        obtain ⟨rfl, -, hcp⟩ := Value.slice.inj he
        obtain ⟨as2, cs2, hs2, -, -⟩ := hq.1.length
        obtain ⟨at2, ct2, ht2, -⟩ := hq.2
        subst hs2 ht2
        have cP := Lib.hid (fun x1 x2 x3 x4 => placeF_any (L.getD k au0).id x1 x2 x3 x4 id wr)
        obtain ⟨y, hy⟩ : ∃ y, (L.getD k au0).id = y := ⟨_, rfl⟩
        have HB2 := HB.out
        rw [hy] at c0 cP HB2
        have i2 : (k : Int) < (n : Int) := by omega
        have i1 : (0 : Int) ≤ (k : Int) := by omega
        have hbb : b = (cmpZ y id == 0) := by
          rw [HB2, Bool.eq_iff_iff, decide_eq_true_iff, beq_iff_eq, cmpZ_eq]
          exact ⟨fun h => h.2, fun h => ⟨hkn, h⟩⟩
        have HBB := Lib.hid hbb
        clear he hcp hq hy HB2 hbb
        generalize (L.getD k au0).kind = yk at *
        generalize S (L.getD k au0).heading = yh at *
        generalize (L.getD k au0).see.length = ys at *
        generalize (L.getD k au0).above.length = ya at *
        generalize cmpZ y id = z at *
        go_wp2_with fail
        refine (cP.out _ _ _ _).mono ?_
        rintro e w1 ⟨rfl, hb1⟩
        have HB1 := Lib.hid (HBw.out.trans (hb1.mono HBw.out.size))
        clear hb1
        go_wp2
        go_ret2
        exact ⟨by rw [HBB.out]; rfl, HB1.out⟩
      · obtain rfl : k = n := by omega
        obtain rfl : b = false := by rw [HB.out]; exact decide_eq_false (fun h => hkn h.1)
        have d0 : decide ((k : Int) < (k : Int)) = false := decide_eq_false (by omega)
        go_wp2
        go_ret2
        exact ⟨rfl, HBw.out⟩

set_option maxHeartbeats 4000000 in
theorem place_any (v : Value) (L : List Au) (id : Int) (w : World) (hv : AL v L w) (hs : AscA L) (hz : L.length ≤ 1000000) :
    Calls Tryz.prog 123 #[v, .int .i64 id] w fun e w' => e = .returned (.tuple #[.int .i64 (plcA L id : Nat), .bool (getA L id).isSome]) ∧ Below w.heap.size w w' := by
  have c1 := search_any v L id w hv hs hz
  obtain ⟨va, vc, rfl, hc1, hc2⟩ := hv.length
  generalize (getA L id).isSome = b at *
  generalize plcA L id = k at *
  generalize L.length = n at *
  go_enter Tryz.func123, Tryz.ntmps123
  go_wp2_with fail
  refine c1.mono ?_
  rintro e w1 ⟨rfl, hb1⟩
  go_wp2
  go_ret2
  exact ⟨rfl, hb1⟩
end

section
open Go.RowKit Go.PlainAid
theorem NR.base {B B' : Nat} {v : Value} {L : List (List UInt8)} {w : World} (h : NR B' v L w) (hB : B ≤ B') : NR B v L w := by
  refine ⟨h.1, ?_⟩
  rcases h.2 with hn | ⟨g, cap, cur, hv, hB', rest⟩
  · exact .inl hn
  · exact .inr ⟨g, cap, cur, hv, Nat.le_trans hB hB', rest⟩
theorem IR.base {B B' : Nat} {v : Value} {l : List Int} {w : World} (h : IR B' v l w) (hB : B ≤ B') : IR B v l w := by
  refine ⟨h.1, ?_⟩
  rcases h.2 with hn | ⟨g, cap, cur, hv, hB', rest⟩
  · exact .inl hn
  · exact .inr ⟨g, cap, cur, hv, Nat.le_trans hB hB', rest⟩

theorem own_put {B e size n : Nat} {v : Value} {xs : List Value} {w : World} (h : w.ownsRow B e size v n xs) {p : Addr} (hp : p.block < B) (u : Value) : (w.setCell p u).ownsRow B e size v n xs := by
  refine ⟨h.1, ?_⟩
  rcases h.2 with hn | ⟨g, cap, cur, hv, hB, hg, rest⟩
  · exact .inl hn
  · exact .inr ⟨g, cap, cur, hv, hB, (Below.heap_setCell w p u g (by omega)).trans hg, rest⟩
theorem own_put5 {B e size n : Nat} {v : Value} {xs : List Value} {w : World} (h : w.ownsRow B e size v n xs) {b : Nat} (hp : b < B) (x0 x1 x2 x3 x4 : Value) : (setA5 w b x0 x1 x2 x3 x4).ownsRow B e size v n xs :=
  own_put (own_put (own_put (own_put (own_put h (p := ⟨b, 0, none⟩) hp x0) (p := ⟨b, 1, none⟩) hp x1) (p := ⟨b, 2, none⟩) hp x2) (p := ⟨b, 3, none⟩) hp x3) (p := ⟨b, 4, none⟩) hp x4

set_option maxHeartbeats 8000000 in
theorem headings_any (a : Au) (s t : Value) (w : World) (h : BL s a.see w) (hz : a.see.length ≤ 100000) :
    Calls Tryz.prog 151 #[AV a s t] w fun e w' => ∃ v, e = .returned v ∧ NR w.heap.size v (hdsX a) w' ∧ v ≠ .slice none 0 0 ∧ Below w.heap.size w w' := by
  obtain ⟨W0, hW0⟩ : ∃ W, w.alloc (.cells #[.int .i64 a.id, .int .i64 a.kind, .string (S a.heading), s, t] 56) = W := ⟨_, rfl⟩
  have b0 : Below w.heap.size w W0 := by rw [← hW0]; exact (Below.refl _ _).alloc (Nat.le_refl _) _
  have hR0 : W0.heap[w.heap.size]? = some (.cells #[.int .i64 a.id, .int .i64 a.kind, .string (S a.heading), s, t] 56 (0, 0)) := by rw [← hW0]; exact heap_alloc_new w _
  have hlt0 : w.heap.size < W0.heap.size := by rw [← hW0]; simp
  obtain ⟨sa, sc, hs, hc1, hc2⟩ := h.length
  subst hs
  have HW0 := Lib.hid hW0
  obtain ⟨⟨x0, x1, x2, x3, x4⟩, -⟩ := acells hR0
  have b1 : Below W0.heap.size W0 (W0.alloc (.cells #[.string (S a.heading)] 9)) := (Below.refl _ _).alloc (Nat.le_refl _) _
  have HU := Lib.hid ((h.after b0).after b1)
  have HR1 : RowKit.Hid (NR W0.heap.size (.slice (some ⟨W0.heap.size, 0, none⟩) 1 1) [a.heading] (W0.alloc (.cells #[.string (S a.heading)] 9))) := (SR.one13 W0 a.heading).row
  have HB1 := Lib.hid b1
  have HB0 := Lib.hid b0
  obtain ⟨n, hn⟩ : ∃ n, a.see.length = n := ⟨_, rfl⟩
  have HZ : RowKit.Hid ([a.heading].length + a.see.length ≤ 1000000) := by unfold RowKit.Hid; rw [List.length_singleton]; omega
  rw [hn] at HU x3 HW0 hc1 ⊢
  have HH : RowKit.Hid ([a.heading] ++ a.see = hdsX a) := rfl
  have x3' := (b1.cell (p := ⟨w.heap.size, 3, none⟩) hlt0).trans x3
  clear hW0 hR0 h hn b0 b1
  unfold AV
  go_enter Tryz.func151, Tryz.ntmps151
  go_upto_region 1 with fail
  rw [HW0.out]
  clear HW0
  go_wp2_with (at_builtin; refine append_sS _ rfl _ _ rfl W0.heap.size (.slice (some ⟨W0.heap.size, 0, none⟩) 1 1) [a.heading] rfl HR1.out (fun h => by cases h) (.slice sa n sc) a.see rfl HU.out HZ.out (by simp) ?_; intro v2 w2 h2 hg2 hn2 hl2)
  have HB2 : RowKit.Hid (Below w.heap.size w w2) := HB0.out.trans ((HB1.out.grown hg2 HB1.out.size (fun j hj => by cases hj; exact Nat.le_refl _)).mono HB0.out.size)
  rw [HH.out] at h2
  have H2 := Lib.hid (h2.base HB0.out.size)
  have HN2 := Lib.hid hn2
  obtain ⟨ao, cp, rfl, _, _⟩ := own_form13 h2
  clear h2 hg2 hn2 hl2
  go_wp2
  go_ret
  exact ⟨_, rfl, H2.out, HN2.out, HB2.out⟩

set_option maxHeartbeats 16000000 in
set_option maxRecDepth 100000 in
theorem clone_any (a : Au) (s t : Value) (w : World) (h : AN a s t w) (hz : a.see.length ≤ 100000) (hy : a.above.length ≤ 100000) :
    Calls Tryz.prog 124 #[AV a s t] w fun e w' => ∃ s' t', e = .returned (AV a s' t') ∧ NR w.heap.size s' a.see w' ∧ IR w.heap.size t' a.above w' ∧ Below w.heap.size w w' := by
  obtain ⟨Q, hQ⟩ : ∃ Q, (fun (e : Ending) (w' : World) => ∃ s' t', e = .returned (AV a s' t') ∧ NR w.heap.size s' a.see w' ∧ IR w.heap.size t' a.above w' ∧ Below w.heap.size w w') = Q := ⟨_, rfl⟩
  rw [hQ]
  have HQ : RowKit.Hid (∀ s' t' W, NR w.heap.size s' a.see W → IR w.heap.size t' a.above W → Below w.heap.size w W → Q (.returned (AV a s' t')) W) := by
    rw [← hQ]
    exact fun s' t' W h1 h2 h3 => ⟨s', t', rfl, h1, h2, h3⟩
  obtain ⟨W0, hW0⟩ : ∃ W, (w.alloc (.cells #[.int .i64 a.id, .int .i64 a.kind, .string (S a.heading), s, t] 56)).alloc (.cells #[.int .i64 0, .int .i64 0, .string ⟨#[]⟩, .slice none 0 0, .slice none 0 0] 56) = W := ⟨_, rfl⟩
  have b0 : Below w.heap.size w W0 := by rw [← hW0]; exact ((Below.refl _ _).alloc (Nat.le_refl _) _).alloc (by simp) _
  have hR0 : W0.heap[w.heap.size]? = some (.cells #[.int .i64 a.id, .int .i64 a.kind, .string (S a.heading), s, t] 56 (0, 0)) := by
    rw [← hW0]
    exact (Below.heap_alloc _ _ _ (by simp)).trans (heap_alloc_new w _)
  have hR1 : W0.heap[w.heap.size + 1]? = some (.cells #[.int .i64 0, .int .i64 0, .string ⟨#[]⟩, .slice none 0 0, .slice none 0 0] 56 (0, 0)) := by
    rw [← hW0]
    have := heap_alloc_new (w.alloc (.cells #[.int .i64 a.id, .int .i64 a.kind, .string (S a.heading), s, t] 56)) (.cells #[.int .i64 0, .int .i64 0, .string ⟨#[]⟩, .slice none 0 0, .slice none 0 0] 56)
    simpa using this
  have hsz0 : W0.heap.size = w.heap.size + 2 := by rw [← hW0]; simp
  obtain ⟨sa, sc, hs, -, -⟩ := h.1.length
  obtain ⟨ta, tc, ht, -⟩ := h.2
  have HS := Lib.hid (h.1.after b0)
  have HT := Lib.hid (h.2.after b0)
  subst hs ht
  have cS := Lib.hid (fun W (hb : Below W0.heap.size W0 W) => cloneS_any a.see _ W (HS.out.after hb) hz)
  have cI := Lib.hid (fun W (hb : Below W0.heap.size W0 W) => cloneI_any a.above _ W (HT.out.after hb) hy)
  have HW0 := Lib.hid hW0
  have HR0 := Lib.hid hR0
  have HR1 := Lib.hid hR1
  have HB0 := Lib.hid b0
  have HS0 := Lib.hid hsz0
  obtain ⟨⟨x0, x1, x2, x3, x4⟩, -⟩ := acells hR0
  have F0 := Lib.hid (Below.refl W0.heap.size W0).drew
  have hlt0 : w.heap.size < W0.heap.size := by omega
  have hlt1 : w.heap.size + 1 < W0.heap.size := by omega
  unfold AV at HQ ⊢
  clear hQ hW0 hR0 hR1 hsz0 b0 h HS HT
  generalize a.see.length = sn at *
  generalize a.above.length = tn at *
  generalize S a.heading = hd at *
  generalize a.id = ai at *
  generalize a.kind = ak at *
  go_enter Tryz.func124, Tryz.ntmps124
  go_upto_region 1 with fail
  rw [HW0.out]
  clear HW0
  go_region_law (first
    | (go_simp; go_at_call 155; refine (cS.out _ ?_).mono ?_; (exact F0.out); rintro e w6 ⟨v6, rfl, hr6, hb6⟩; have hb06 : Below W0.heap.size W0 w6 := F0.out.trans (hb6.mono F0.out.size); have z4 := (hb06.cell (p := ⟨w.heap.size, 4, none⟩) hlt0).trans x4; have H6 := Lib.hid hr6; have HB6 := Lib.hid hb06; obtain ⟨a6, c6, hv6, -, -⟩ := own_form13 hr6; clear hr6 hb6)
    | (go_simp; go_at_call 156; refine (cI.out _ ?_).mono ?_; (exact HB6.out); rintro e w7 ⟨v7, rfl, hr7, hb7⟩; have hb07 : Below W0.heap.size W0 w7 := HB6.out.trans (hb7.mono HB6.out.size); have H7 := Lib.hid hr7; have HB7 := Lib.hid hb7; have HB07 := Lib.hid hb07; have hF7 := (hb07.block _ hlt0).trans HR0.out; have hR7 := (hb07.block _ hlt1).trans HR1.out; obtain ⟨⟨s0, s1, s2, s3, s4⟩, f0, f1, f2, f3, f4⟩ := acells hF7; obtain ⟨a7, c7, hv7, -, -⟩ := own_form13 hr7; clear hr7 hb7 hb07))
  all_goals
    subst hv6 hv7
    (first
      | (obtain ⟨wx, hq⟩ : ∃ W, (w7.setCell ⟨w.heap.size, 3, none⟩ (.slice a6 a.see.length c6)).setCell ⟨w.heap.size, 4, none⟩ (.slice a7 a.above.length c7) = W := ⟨_, rfl⟩; rw [hq]; have hwx : wx = (w7.setCell ⟨w.heap.size, 3, none⟩ (.slice a6 a.see.length c6)).setCell ⟨w.heap.size, 4, none⟩ (.slice a7 a.above.length c7) ∨ wx = (w7.setCell ⟨w.heap.size, 4, none⟩ (.slice a7 a.above.length c7)).setCell ⟨w.heap.size, 3, none⟩ (.slice a6 a.see.length c6) := .inl hq.symm; clear hq)
      | (obtain ⟨wx, hq⟩ : ∃ W, (w7.setCell ⟨w.heap.size, 4, none⟩ (.slice a7 a.above.length c7)).setCell ⟨w.heap.size, 3, none⟩ (.slice a6 a.see.length c6) = W := ⟨_, rfl⟩; rw [hq]; have hwx : wx = (w7.setCell ⟨w.heap.size, 3, none⟩ (.slice a6 a.see.length c6)).setCell ⟨w.heap.size, 4, none⟩ (.slice a7 a.above.length c7) ∨ wx = (w7.setCell ⟨w.heap.size, 4, none⟩ (.slice a7 a.above.length c7)).setCell ⟨w.heap.size, 3, none⟩ (.slice a6 a.see.length c6) := .inr hq.symm; clear hq))
    have hFx : wx.heap[w.heap.size]? = some (.cells #[.int .i64 ai, .int .i64 ak, .string hd, .slice a6 a.see.length c6, .slice a7 a.above.length c7] 56 (0, 0)) := by
      rcases hwx with rfl | rfl <;> simp [World.setCell, Array.getElem?_modify, hF7]
    have hRx : wx.heap[w.heap.size + 1]? = some (.cells #[.int .i64 0, .int .i64 0, .string ⟨#[]⟩, .slice none 0 0, .slice none 0 0] 56 (0, 0)) := by
      rcases hwx with rfl | rfl <;> simpa [World.setCell, Array.getElem?_modify] using hR7
    have hbx : Below w.heap.size w wx := by
      rcases hwx with rfl | rfl
      · exact ((HB0.out.trans (HB07.out.mono HB0.out.size)).setCell (p := ⟨w.heap.size, 3, none⟩) (Nat.le_refl _) _).setCell (p := ⟨w.heap.size, 4, none⟩) (Nat.le_refl _) _
      · exact ((HB0.out.trans (HB07.out.mono HB0.out.size)).setCell (p := ⟨w.heap.size, 4, none⟩) (Nat.le_refl _) _).setCell (p := ⟨w.heap.size, 3, none⟩) (Nat.le_refl _) _
    have hS7 : NR W0.heap.size (.slice a6 a.see.length c6) a.see w7 := H6.out.after HB7.out
    have hI7 : IR W0.heap.size (.slice a7 a.above.length c7) a.above w7 := H7.out.base HB6.out.size
    have hSx : NR W0.heap.size (.slice a6 a.see.length c6) a.see wx := by
      rcases hwx with rfl | rfl
      · exact own_put (own_put hS7 (p := ⟨w.heap.size, 3, none⟩) hlt0 _) (p := ⟨w.heap.size, 4, none⟩) hlt0 _
      · exact own_put (own_put hS7 (p := ⟨w.heap.size, 4, none⟩) hlt0 _) (p := ⟨w.heap.size, 3, none⟩) hlt0 _
    have hIx : IR W0.heap.size (.slice a7 a.above.length c7) a.above wx := by
      rcases hwx with rfl | rfl
      · exact own_put (own_put hI7 (p := ⟨w.heap.size, 3, none⟩) hlt0 _) (p := ⟨w.heap.size, 4, none⟩) hlt0 _
      · exact own_put (own_put hI7 (p := ⟨w.heap.size, 4, none⟩) hlt0 _) (p := ⟨w.heap.size, 3, none⟩) hlt0 _
    have hSz : NR W0.heap.size (.slice a6 a.see.length c6) a.see (setA5 wx (w.heap.size + 1) (.int .i64 ai) (.int .i64 ak) (.string hd) (.slice a6 a.see.length c6) (.slice a7 a.above.length c7)) := own_put5 hSx hlt1 _ _ _ _ _
    have hIz : IR W0.heap.size (.slice a7 a.above.length c7) a.above (setA5 wx (w.heap.size + 1) (.int .i64 ai) (.int .i64 ak) (.string hd) (.slice a6 a.see.length c6) (.slice a7 a.above.length c7)) := own_put5 hIx hlt1 _ _ _ _ _
    have hfin := HQ.out _ _ _ (hSz.base HB0.out.size) (hIz.base HB0.out.size) (au_below hbx (Nat.le_succ _))
    have hres := au_set5 (x0 := .int .i64 ai) (x1 := .int .i64 ak) (x2 := .string hd) (x3 := .slice a6 a.see.length c6) (x4 := .slice a7 a.above.length c7) hRx
    unfold setA5 at hfin hres
    have Hfin := Lib.hid hfin
    have Hres := Lib.hid hres
    obtain ⟨⟨y0, y1, y2, y3, y4⟩, g0, g1, g2, g3, g4⟩ := acells hFx
    obtain ⟨⟨r0, r1, r2, r3, r4⟩, k0, k1, k2, k3, k4⟩ := acells hRx
    have hne : ¬ w.heap.size = w.heap.size + 1 := by omega
    clear hfin hres hSz hIz hSx hIx hS7 hI7 hbx hFx hRx hF7 hR7 hwx s0 s1 s2 s3 s4 f0 f1 f2 f3 f4 x0 x1 x2 x3 x4 z4 HQ H6 H7 HB6 HB7 HB07 hb06 cS cI
    go_wp2
    (try simp only [Exit.inBlock, Exit.then])
    refine bodyPost_ret (results_cell_row rfl _ _ (w.heap.size + 1) _ _ _ _ rfl Hres.out Tryz.underlying56 rfl (by kernel_rfl)) rfl ?_
    exact Hfin.out
end

section
open Go.RowKit Go.PlainAid
abbrev Ent : Type := Au × Value × Value
def cellsU (x : Ent) : List Value := [.int .i64 x.1.id, .int .i64 x.1.kind, .string (S x.1.heading), x.2.1, x.2.2]
def nilV : Value := .slice none 0 0
def ent0 : Ent := (au0, nilV, nilV)
theorem cellsU_len : ∀ F : List Ent, (F.flatMap cellsU).length = F.length * 5
  | [] => rfl
  | x :: r => by
    rw [List.flatMap_cons, List.length_append, cellsU_len r, List.length_cons]
    show 5 + r.length * 5 = _
    omega
theorem cells_mid (F : List Ent) (i : Nat) (x : Ent) (hi : F[i]? = some x) : F.flatMap cellsU = (F.take i).flatMap cellsU ++ (cellsU x ++ (F.drop (i + 1)).flatMap cellsU) ∧ ((F.take i).flatMap cellsU).length = i * 5 := by
  obtain ⟨h1, h2⟩ := List.getElem?_eq_some_iff.1 hi
  constructor
  · conv => lhs; rw [← List.take_append_drop i F, List.flatMap_append, List.drop_eq_getElem_cons h1, List.flatMap_cons, h2]
  · rw [cellsU_len, List.length_take, Nat.min_eq_left (by omega)]
theorem cells_at (F : List Ent) (i : Nat) (x : Ent) (hi : F[i]? = some x) (k : Nat) (hk : k < 5) : (F.flatMap cellsU)[i * 5 + k]? = (cellsU x)[k]? := by
  obtain ⟨h1, h2⟩ := cells_mid F i x hi
  rw [h1, List.getElem?_append_right (by omega), h2, show i * 5 + k - i * 5 = k by omega, List.getElem?_append_left (by show k < 5; exact hk)]
theorem set_mid {α : Type} (A C : List α) (b : List α) (m k : Nat) (u : α) (hm : A.length = m) (hk : k < b.length) : (A ++ (b ++ C)).set (m + k) u = A ++ (b.set k u ++ C) := by
  subst hm
  rw [List.set_append_right _ _ (by omega), show A.length + k - A.length = k by omega, List.set_append_left _ _ hk]
theorem ent_set (F : List Ent) (i : Nat) (x y : Ent) (hi : F[i]? = some x) : (F.set i y).flatMap cellsU = (F.take i).flatMap cellsU ++ (cellsU y ++ (F.drop (i + 1)).flatMap cellsU) := by
  obtain ⟨h1, _⟩ := List.getElem?_eq_some_iff.1 hi
  rw [List.set_eq_take_append_cons_drop, if_pos h1, List.flatMap_append, List.flatMap_cons]
theorem made_ents (n : Nat) : (madeCells (Value.agg #[.int .i64 0, .int .i64 0, .string ⟨#[]⟩, .slice none 0 0, .slice none 0 0]).cells (n * 5)).toList = (List.replicate n ent0).flatMap cellsU := by
  unfold madeCells
  rw [Array.toList_map, Array.toList_range]
  induction n with
  | zero => rfl
  | succ n ih =>
    rw [Nat.succ_mul, List.range_add, List.map_append, ih, List.replicate_succ', List.flatMap_append]
    congr 1
    rw [List.map_map]
    have h : ∀ k, k < 5 → (n * 5 + k) % 5 = k := fun k hk => by omega
    have e : (Value.agg #[.int .i64 0, .int .i64 0, .string ⟨#[]⟩, .slice none 0 0, .slice none 0 0]).cells = #[.int .i64 0, .int .i64 0, .string ⟨#[]⟩, .slice none 0 0, .slice none 0 0] := rfl
    rw [e]
    show List.map _ [0, 1, 2, 3, 4] = _
    simp only [List.map_cons, List.map_nil, Function.comp, List.size_toArray, List.length_cons, List.length_nil, Nat.reduceAdd, h 0 (by omega), h 1 (by omega), h 2 (by omega), h 3 (by omega), h 4 (by omega)]
    rfl
theorem infoAu : (Tryz.prog.info? 56).map (fun i => (i.zero, i.size, i.bytes)) = some (some (.agg #[.int .i64 0, .int .i64 0, .string ⟨#[]⟩, .slice none 0 0, .slice none 0 0]), 5, 80) := by kernel_rfl
theorem info_au : ∃ i0, Tryz.prog.info? 56 = some i0 ∧ i0.zero = some (.agg #[.int .i64 0, .int .i64 0, .string ⟨#[]⟩, .slice none 0 0, .slice none 0 0]) ∧ i0.size = 5 ∧ i0.bytes = 80 := by
  obtain ⟨i0, h0, h2⟩ := Option.map_eq_some_iff.1 infoAu
  simp only [Prod.mk.injEq] at h2
  exact ⟨i0, h0, h2.1, h2.2.1, h2.2.2⟩

/-- Two rows of the call's own don't lie in one block. -/
def Apt (u v : Value) : Prop := u.ownBlock = none ∨ u.ownBlock ≠ v.ownBlock
theorem Apt.symm {u v : Value} (h : Apt u v) : Apt v u := by
  rcases h with h | h
  · cases hv : v.ownBlock with
    | none => exact .inl hv
    | some k => exact .inr (by rw [h, hv]; exact fun e => by cases e)
  · cases hv : v.ownBlock with
    | none => exact .inl hv
    | some k => exact .inr (by rw [hv] at h; rw [hv]; exact fun e => h e.symm)
theorem Apt.nilR (u : Value) : Apt u nilV := by
  cases hu : u.ownBlock with
  | none => exact .inl hu
  | some k => exact .inr (by rw [hu]; exact fun e => by cases e)
theorem Apt.nilL (u : Value) : Apt nilV u := .inl rfl

/-- A file of the call's own. -/
structure FR (B : Nat) (v : Value) (F : List Ent) (w : World) : Prop where
  row : w.ownsRow B 56 5 v F.length (F.flatMap cellsU)
  see : ∀ x ∈ F, NR B x.2.1 x.1.see w
  abv : ∀ x ∈ F, IR B x.2.2 x.1.above w
  sap : F.Pairwise fun x y => Apt x.2.1 y.2.1
  aap : F.Pairwise fun x y => Apt x.2.2 y.2.2
theorem FR.after {B : Nat} {v : Value} {F : List Ent} {w w' : World} (h : FR B v F w) (hb : Below w.heap.size w w') : FR B v F w' :=
  ⟨own_after h.row hb, fun x hx => (h.see x hx).after hb, fun x hx => (h.abv x hx).after hb, h.sap, h.aap⟩
theorem own_kept {B e size n : Nat} {v : Value} {xs : List Value} {w W : World} (h : w.ownsRow B e size v n xs) (hk : ∀ i, B ≤ i → i < w.heap.size → W.heap[i]? = w.heap[i]?) : W.ownsRow B e size v n xs := by
  refine ⟨h.1, ?_⟩
  rcases h.2 with hn | ⟨g, cap, cur, hv, hB', hg, rest⟩
  · exact .inl hn
  · have hlt : g < w.heap.size := (Array.getElem?_eq_some_iff.1 hg).1
    exact .inr ⟨g, cap, cur, hv, hB', (hk g hB' hlt).trans hg, rest⟩
/-- It stays where only what it doesn't hold is changed. -/
theorem FR.kept {B : Nat} {v : Value} {F : List Ent} {w W : World} (h : FR B v F w) (hk : ∀ i, B ≤ i → i < w.heap.size → W.heap[i]? = w.heap[i]?) : FR B v F W :=
  ⟨own_kept h.row hk, fun x hx => own_kept (h.see x hx) hk, fun x hx => own_kept (h.abv x hx) hk, h.sap, h.aap⟩
theorem FR.base {B B' : Nat} {v : Value} {F : List Ent} {w : World} (h : FR B' v F w) (hB : B ≤ B') : FR B v F w := by
  refine ⟨⟨h.row.1, ?_⟩, fun x hx => (h.see x hx).base hB, fun x hx => (h.abv x hx).base hB, h.sap, h.aap⟩
  rcases h.row.2 with hn | ⟨g, cap, cur, hv, hB', rest⟩
  · exact .inl hn
  · exact .inr ⟨g, cap, cur, hv, Nat.le_trans hB hB', rest⟩
theorem add13 (g o j : Nat) : (⟨g, o, none⟩ : Addr).add j = ⟨g, o + j, none⟩ := by unfold Addr.add; split <;> simp_all
theorem FR.open {B : Nat} {v : Value} {F : List Ent} {w : World} (h : FR B v F w) (i : Nat) (x : Ent) (hi : F[i]? = some x) :
    ∃ g cap, v = .slice (some ⟨g, 0, none⟩) F.length cap ∧ B ≤ g ∧ g < w.heap.size ∧ F.length ≤ cap ∧ cap ≤ maxLen ∧
    (w.cell? ⟨g, i * 5, none⟩ = some (.int .i64 x.1.id) ∧ w.cell? ⟨g, i * 5 + 1, none⟩ = some (.int .i64 x.1.kind) ∧ w.cell? ⟨g, i * 5 + 2, none⟩ = some (.string (S x.1.heading)) ∧ w.cell? ⟨g, i * 5 + 3, none⟩ = some x.2.1 ∧ w.cell? ⟨g, i * 5 + 4, none⟩ = some x.2.2) ∧
    (∀ p, w.frozen? ⟨g, p, none⟩ = false) := by
  obtain ⟨hlt, _⟩ := List.getElem?_eq_some_iff.1 hi
  rcases h.row.2 with ⟨_, h0⟩ | ⟨g, cap, cur, rfl, hb, hg, hc, hm, hs, ht⟩
  · omega
  · have hx := World.ownsRow.cells h.row (g := g) rfl
    have hcell : ∀ k u, k < 5 → (cellsU x)[k]? = some u → w.cell? ⟨g, i * 5 + k, none⟩ = some u := by
      intro k u hk hu
      have := hx (i * 5 + k) u (by rw [cells_at F i x hi k hk]; exact hu)
      rwa [add13, Nat.zero_add] at this
    exact ⟨g, cap, rfl, hb, (Array.getElem?_eq_some_iff.1 hg).1, hc, hm, ⟨hcell 0 _ (by omega) rfl, hcell 1 _ (by omega) rfl, hcell 2 _ (by omega) rfl, hcell 3 _ (by omega) rfl, hcell 4 _ (by omega) rfl⟩, fun p => Lib.frozen_of_heap hg p⟩
theorem FR.form {B : Nat} {v : Value} {F : List Ent} {w : World} (h : FR B v F w) : ∃ a cap, v = .slice a F.length cap ∧ F.length ≤ cap ∧ cap ≤ maxLen := own_form13 h.row
theorem FR.al {B : Nat} {v : Value} {F : List Ent} {w : World} (h : FR B v F w) : AL v (F.map (·.1)) w := by
  obtain ⟨a, cap, rfl, hc, hm⟩ := h.form
  have hl : (F.map (·.1)).length = F.length := List.length_map _
  refine ⟨a, cap, by rw [hl], by rw [hl]; exact hc, hm, ?_, fun i hi => ?_⟩
  · intro ha
    subst ha
    rcases h.row.2 with ⟨e, _⟩ | ⟨g, cap', cur, e, _⟩
    · exact (Value.slice.inj e).2.2
    · cases (Value.slice.inj e).1
  · rw [hl] at hi
    obtain ⟨x, hx⟩ : ∃ x, F[i]? = some x := ⟨F[i], List.getElem?_eq_getElem hi⟩
    have hmem : x ∈ F := List.mem_of_getElem? hx
    obtain ⟨g, cap', e, hb, hg, _, _, ⟨c0, c1, c2, c3, c4⟩, _⟩ := h.open i x hx
    have hd : (F.map (·.1)).getD i au0 = x.1 := by
      rw [List.getD_eq_getElem?_getD, List.getElem?_map, hx]
      rfl
    rw [hd]
    exact ⟨g, 0, x.2.1, x.2.2, (Value.slice.inj e).1, hg, by rw [Nat.zero_add]; exact c0, by rw [Nat.zero_add]; exact c1, by rw [Nat.zero_add]; exact c2, by rw [Nat.zero_add]; exact c3, by rw [Nat.zero_add]; exact c4, (h.see x hmem).bl, (h.abv x hmem).il⟩

/-- What has changed is one cell of the file's own row. -/
theorem row_set {B : Nat} {v : Value} {w : World} {n : Nat} {xs : List Value} {g cap : Nat} (h : w.ownsRow B 56 5 v n xs) (hv : v = .slice (some ⟨g, 0, none⟩) n cap) (p : Nat) (_hp : p < n * 5) (u : Value) :
    (w.setCell ⟨g, p, none⟩ u).ownsRow B 56 5 v n (xs.set p u) := by
  refine ⟨by rw [List.length_set]; exact h.1, ?_⟩
  rcases h.2 with ⟨hn, h0⟩ | ⟨g', cap', cur, hv', hb, hg, hc, hm, hs, ht⟩
  · rw [hv] at hn
    cases hn
  · rw [hv] at hv'
    obtain ⟨h1, _, h3⟩ := Value.slice.inj hv'
    obtain rfl : g = g' := by simpa using h1
    refine .inr ⟨g, cap', cur.setIfInBounds p u, by rw [hv, h3], hb, ?_, hc, hm, by simpa using hs, ?_⟩
    · simp [World.setCell, Array.getElem?_modify, hg]
    · rw [Array.toList_setIfInBounds, List.take_set, ht]
theorem apt_set {F : List Ent} {f : Ent → Value} (h : F.Pairwise fun x y => Apt (f x) (f y)) (i : Nat) (y : Ent) (hy : ∀ j x, j ≠ i → F[j]? = some x → Apt (f y) (f x)) : (F.set i y).Pairwise fun x y => Apt (f x) (f y) := by
  rw [List.pairwise_iff_getElem] at h ⊢
  intro a b ha hb hab
  rw [List.length_set] at ha hb
  rw [List.getElem_set, List.getElem_set]
  by_cases h1 : i = a
  · rw [if_pos h1, if_neg (by omega)]
    exact hy b _ (by omega) (List.getElem?_eq_getElem hb)
  · rw [if_neg h1]
    by_cases h2 : i = b
    · rw [if_pos h2]
      exact (hy a _ (by omega) (List.getElem?_eq_getElem ha)).symm
    · rw [if_neg h2]
      exact h a b ha hb hab
theorem mem_set13 {F : List Ent} {i : Nat} {y x : Ent} (h : x ∈ F.set i y) : x = y ∨ x ∈ F := by
  rcases List.mem_or_eq_of_mem_set h with h | h
  · exact .inr h
  · exact .inl h
theorem set_keeps13 {B n : Nat} {v : Value} {xs : List Value} {w : World} {g cap : Nat} {e : TypeId} (hne : e ≠ 56) (hr : w.ownsRow B e 1 v n xs) {F : List Ent} {vF : Value} (hF : FR B vF F w) (hv : vF = .slice (some ⟨g, 0, none⟩) F.length cap) (p : Nat) (u : Value) :
    (w.setCell ⟨g, p, none⟩ u).ownsRow B e 1 v n xs := by
  refine ⟨hr.1, ?_⟩
  rcases hr.2 with hn | ⟨g', cap', cur, hv', hb, hg, rest⟩
  · exact .inl hn
  · refine .inr ⟨g', cap', cur, hv', hb, ?_, rest⟩
    rw [Below.heap_setCell w _ u g' ?_]
    · exact hg
    · intro hgg
      rcases hF.row.2 with ⟨h0, _⟩ | ⟨g2, _, cur2, hv2, _, hg2, _⟩
      · rw [hv] at h0; cases h0
      · rw [hv] at hv2
        have : g = g2 := by simpa using (Value.slice.inj hv2).1
        subst this
        simp only at hgg
        subst hgg
        rw [hg] at hg2
        injection hg2 with hg2
        injection hg2 with _ h5 _
        exact hne h5
theorem ne_string : 9 ≠ 56 := by decide
theorem ne_int : 3 ≠ 56 := by decide
end

end Go.Proofs.YthjdopnoophigaaGreatDoor
