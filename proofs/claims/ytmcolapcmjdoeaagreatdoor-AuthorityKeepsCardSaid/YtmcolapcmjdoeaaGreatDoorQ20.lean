/- Merged: Plain13E, Plain13F, QA13. -/
import Derived.Test.YtmcolapcmjdoeaaGreatDoorQ19
import Derived.Test.YtmcolapcmjdoeaaGreatDoorQ05
import Derived.Deep.LoopGhost
namespace Go.Proofs.YtmcolapcmjdoeaaGreatDoor

section
section
variable {α : Type} (f : α → Int)
def AscG (L : List α) : Prop := L.Pairwise fun x y => f x < f y
/-- How many come before a number. -/
def plcG (L : List α) (n : Int) : Nat := L.countP fun a => decide (f a < n)
theorem plc_le (L : List α) (n : Int) : plcG f L n ≤ L.length := List.countP_le_length
theorem plc_lt (a : α) (r : List α) (n : Int) (h : f a < n) : plcG f (a :: r) n = plcG f r n + 1 := by
  unfold plcG
  rw [List.countP_cons, if_pos (decide_eq_true h)]
theorem plc_ge (a : α) (r : List α) (n : Int) (hs : AscG f (a :: r)) (h : ¬ f a < n) : plcG f (a :: r) n = 0 := by
  unfold plcG
  rw [List.countP_eq_zero]
  unfold AscG at hs
  rw [List.pairwise_cons] at hs
  intro x hx
  rw [decide_eq_true_eq]
  rcases List.mem_cons.1 hx with rfl | hx
  · exact h
  · have := hs.1 x hx
    omega
theorem asc_tail {a : α} {r : List α} (h : AscG f (a :: r)) : AscG f r := (List.pairwise_cons.1 h).2
theorem plc_eq (d : α) : ∀ (L : List α) (n : Int) (k : Nat), k ≤ L.length → (∀ t, t < k → f (L.getD t d) < n) → (∀ t, k ≤ t → t < L.length → n ≤ f (L.getD t d)) → plcG f L n = k
  | [], _, k, hk, _, _ => by
    have : k = 0 := by simpa using hk
    subst this
    rfl
  | a :: r, n, 0, _, _, h2 => by
    unfold plcG
    rw [List.countP_eq_zero]
    intro x hx
    obtain ⟨t, ht, rfl⟩ := List.getElem_of_mem hx
    have := h2 t (Nat.zero_le _) ht
    rw [List.getD_eq_getElem?_getD, List.getElem?_eq_getElem ht] at this
    rw [decide_eq_true_eq]
    have h3 : n ≤ f ((a :: r)[t]) := this
    omega
  | a :: r, n, k + 1, hk, h1, h2 => by
    have h0 := h1 0 (Nat.succ_pos _)
    rw [plc_lt f a r n h0, plc_eq d r n k (by simpa using hk) (fun t ht => by simpa using h1 (t + 1) (by omega)) (fun t h3 h4 => by simpa using h2 (t + 1) (by omega) (by simpa using h4))]
theorem plc_low (d : α) : ∀ (L : List α) (n : Int), AscG f L → ∀ t, t < plcG f L n → f (L.getD t d) < n
  | [], n, _, t, h => by simp [plcG] at h
  | a :: r, n, hs, t, h => by
    by_cases ha : f a < n
    · rw [plc_lt f a r n ha] at h
      cases t with
      | zero => exact ha
      | succ t => exact plc_low d r n (asc_tail f hs) t (by omega)
    · rw [plc_ge f a r n hs ha] at h
      omega
theorem plc_high (d : α) : ∀ (L : List α) (n : Int), AscG f L → ∀ t, plcG f L n ≤ t → t < L.length → n ≤ f (L.getD t d)
  | [], n, _, t, _, h => by simp at h
  | a :: r, n, hs, t, h, hl => by
    by_cases ha : f a < n
    · rw [plc_lt f a r n ha] at h
      cases t with
      | zero => omega
      | succ t => exact plc_high d r n (asc_tail f hs) t (by omega) (by simpa using hl)
    · cases t with
      | zero => show n ≤ f a; omega
      | succ t =>
        have h1 : t < r.length := by simpa using hl
        have := (List.pairwise_cons.1 hs).1 (r.getD t d) (by rw [List.getD_eq_getElem?_getD, List.getElem?_eq_getElem h1]; exact List.getElem_mem h1)
        show n ≤ f (r.getD t d)
        omega
/-- What has this number stands at its place. -/
theorem plc_at (d : α) : ∀ (L : List α) (n : Int) (_ : AscG f L) (x : α), x ∈ L → f x = n → plcG f L n < L.length ∧ L.getD (plcG f L n) d = x
  | [], _, _, _, h, _ => by cases h
  | a :: r, n, hs, x, hx, he => by
    by_cases ha : f a < n
    · rw [plc_lt f a r n ha]
      rcases List.mem_cons.1 hx with rfl | hx
      · omega
      · obtain ⟨h1, h2⟩ := plc_at d r n (asc_tail f hs) x hx he
        exact ⟨by simpa using h1, h2⟩
    · rw [plc_ge f a r n hs ha]
      rcases List.mem_cons.1 hx with rfl | hx
      · exact ⟨Nat.succ_pos _, rfl⟩
      · have := (List.pairwise_cons.1 hs).1 x hx
        omega
/-- Without the one that has this number. -/
theorem plc_drop (d : α) : ∀ (L : List α) (n : Int), AscG f L → plcG f L n < L.length → f (L.getD (plcG f L n) d) = n → L.filter (fun x => decide (f x ≠ n)) = L.take (plcG f L n) ++ L.drop (plcG f L n + 1)
  | [], _, _, h, _ => by simp at h
  | a :: r, n, hs, h, he => by
    by_cases ha : f a < n
    · rw [plc_lt f a r n ha] at h he ⊢
      rw [List.filter_cons, if_pos (decide_eq_true (by omega)), plc_drop d r n (asc_tail f hs) (by simpa using h) he]
      rfl
    · rw [plc_ge f a r n hs ha] at h he ⊢
      have he0 : f a = n := he
      rw [List.filter_cons, if_neg (by rw [decide_eq_true_eq]; exact fun g => g he0)]
      show _ = r
      rw [List.filter_eq_self]
      intro x hx
      have := (List.pairwise_cons.1 hs).1 x hx
      exact decide_eq_true (by omega)
/-- Another one in the place of the one that has this number. -/
theorem plc_set (d : α) (y : α) : ∀ (L : List α) (n : Int), AscG f L → plcG f L n < L.length → f (L.getD (plcG f L n) d) = n → L.map (fun x => if f x = n then y else x) = L.set (plcG f L n) y
  | [], _, _, h, _ => by simp at h
  | a :: r, n, hs, h, he => by
    by_cases ha : f a < n
    · rw [plc_lt f a r n ha] at h he ⊢
      rw [List.map_cons, if_neg (by omega), plc_set d y r n (asc_tail f hs) (by simpa using h) he]
      rfl
    · rw [plc_ge f a r n hs ha] at h he ⊢
      have he0 : f a = n := he
      rw [List.map_cons, if_pos he0]
      show _ = y :: r
      congr 1
      conv => rhs; rw [← List.map_id r]
      refine List.map_congr_left fun x hx => ?_
      have := (List.pairwise_cons.1 hs).1 x hx
      rw [if_neg (by omega)]
      rfl
theorem asc_put : ∀ (L : List α) (x : α), AscG f L → (∀ y ∈ L, f y ≠ f x) → AscG f (L.take (plcG f L (f x)) ++ x :: L.drop (plcG f L (f x)))
  | [], x, _, _ => by simp [AscG, plcG]
  | a :: r, x, hs, hx => by
    have ha := hx a (by simp)
    have ih := asc_put r x (asc_tail f hs) (fun y hy => hx y (by simp [hy]))
    by_cases h : f a < f x
    · rw [plc_lt f a r _ h]
      rw [List.take_succ_cons, List.drop_succ_cons, List.cons_append]
      refine List.pairwise_cons.2 ⟨fun y hy => ?_, ih⟩
      rw [List.mem_append, List.mem_cons] at hy
      rcases hy with hy | rfl | hy
      · exact (List.pairwise_cons.1 hs).1 y (List.mem_of_mem_take hy)
      · exact h
      · exact (List.pairwise_cons.1 hs).1 y (List.mem_of_mem_drop hy)
    · rw [plc_ge f a r _ hs h, List.take_zero, List.drop_zero, List.nil_append]
      refine List.pairwise_cons.2 ⟨fun y hy => ?_, hs⟩
      rcases List.mem_cons.1 hy with rfl | hy
      · omega
      · have := (List.pairwise_cons.1 hs).1 y hy
        omega
end

/-! Files. -/
def AscA (L : List Au) : Prop := AscG Au.id L
def plcA (L : List Au) (id : Int) : Nat := plcG Au.id L id
theorem get_plc (L : List Au) (id : Int) (h : AscA L) : (getA L id).isSome = true ↔ plcA L id < L.length ∧ (L.getD (plcA L id) au0).id = id := by
  constructor
  · intro hs
    obtain ⟨a, ha⟩ := Option.isSome_iff_exists.1 hs
    obtain ⟨h1, h2⟩ := get_some L id a ha
    obtain ⟨h3, h4⟩ := plc_at Au.id au0 L id h a h1 h2
    exact ⟨h3, by show (L.getD (plcG Au.id L id) au0).id = id; rw [h4, h2]⟩
  · rintro ⟨h1, h2⟩
    obtain ⟨a, ha⟩ := get_mem L id ⟨L.getD (plcA L id) au0, by rw [List.getD_eq_getElem?_getD, List.getElem?_eq_getElem h1]; exact List.getElem_mem h1, h2⟩
    rw [ha]
    rfl
theorem get_plc_eq (L : List Au) (id : Int) (h : AscA L) (a : Au) (ha : getA L id = some a) : plcA L id < L.length ∧ L.getD (plcA L id) au0 = a ∧ a.id = id := by
  obtain ⟨h1, h2⟩ := get_some L id a ha
  obtain ⟨h3, h4⟩ := plc_at Au.id au0 L id h a h1 h2
  exact ⟨h3, h4, h2⟩
theorem ins_plc (a : Au) : ∀ L : List Au, AscA L → (∀ b ∈ L, b.id ≠ a.id) → insA L a = L.take (plcA L a.id) ++ a :: L.drop (plcA L a.id)
  | [], _, _ => rfl
  | x :: r, h, hn => by
    have hx1 := hn x (by simp)
    unfold insA
    by_cases hx : a.id < x.id
    · rw [if_pos hx]
      have : plcA (x :: r) a.id = 0 := plc_ge Au.id x r a.id h (by omega)
      rw [this]
      rfl
    · rw [if_neg hx]
      have ih := ins_plc a r (asc_tail Au.id h) (fun b hb => hn b (by simp [hb]))
      have : plcA (x :: r) a.id = plcA r a.id + 1 := plc_lt Au.id x r a.id (by omega)
      rw [this, ih]
      rfl
theorem wout_plc (L : List Au) (id : Int) (h : AscA L) (h1 : plcA L id < L.length) (h2 : (L.getD (plcA L id) au0).id = id) : woutA L id = L.take (plcA L id) ++ L.drop (plcA L id + 1) := plc_drop Au.id au0 L id h h1 h2
theorem with_plc (L : List Au) (a : Au) (h : AscA L) (h1 : plcA L a.id < L.length) (h2 : (L.getD (plcA L a.id) au0).id = a.id) : withA L a = L.set (plcA L a.id) a := plc_set Au.id au0 a L a.id h h1 h2
theorem right_asc (L : List Au) (h : rightA L = 0) : AscA L := (ones_out L none (right_out L h).2.1).1

/-! Above and Below ascend. -/
def AscI (L : List Int) : Prop := L.Pairwise (· < ·)
theorem insI_asc : ∀ (L : List Int) (n : Int), AscI L → n ∉ L → AscI (insI L n)
  | [], n, _, _ => List.pairwise_singleton _ _
  | x :: r, n, h, hn => by
    have h0 := h
    unfold AscI at h
    rw [List.pairwise_cons] at h
    unfold insI
    split
    · rename_i hx
      refine List.pairwise_cons.2 ⟨fun y hy => ?_, h0⟩
      rcases List.mem_cons.1 hy with rfl | hy
      · exact hx
      · have := h.1 y hy
        omega
    · rename_i hx
      have hne : x ≠ n := fun e => hn (by rw [e]; simp)
      refine List.pairwise_cons.2 ⟨fun y hy => ?_, insI_asc r n h.2 (fun g => hn (by simp [g]))⟩
      rcases (mem_ins n y r).1 hy with rfl | hy
      · omega
      · exact h.1 y hy
theorem putI_asc (L : List Int) (n : Int) (h : AscI L) : AscI (putI L n) := by
  unfold putI
  split
  · exact h
  · rename_i hn
    exact insI_asc L n h hn
theorem puts_asc : ∀ (ns L : List Int), AscI L → AscI (ns.foldl putI L)
  | [], _, h => h
  | n :: ns, L, h => puts_asc ns (putI L n) (putI_asc L n h)
theorem fold_asc (id : Int) : ∀ (l : List Au) (out : List Int), AscI out → AscI (l.foldl (stepA id) out)
  | [], _, h => h
  | a :: r, out, h => by
    refine fold_asc id r _ ?_
    unfold stepA
    split
    · exact h
    · exact puts_asc _ _ h
theorem above_asc (l : List Au) (id : Int) : AscI (aboveA l id) := by
  have : ∀ k, AscI (iterA l id k) := by
    intro k
    induction k with
    | zero => exact List.Pairwise.nil
    | succ k ih =>
      show AscI (roundA l id (iterA l id k))
      rw [round_fold]
      exact fold_asc id l _ ih
  exact this _
theorem below_asc (l : List Au) (id : Int) : AscI (belowA l id) := by
  have : ∀ (r : List Au) (out : List Int), AscI out → AscI (r.foldl (fun out a => if id ∈ aboveA l a.id then putI out a.id else out) out) := by
    intro r
    induction r with
    | nil => intro out h; exact h
    | cons a r ih =>
      intro out h
      rw [List.foldl_cons]
      refine ih _ ?_
      split
      · exact putI_asc _ _ h
      · exact h
  exact this l [] List.Pairwise.nil
theorem asc_same : ∀ A B : List Int, AscI A → AscI B → (∀ n, n ∈ A ↔ n ∈ B) → A = B
  | [], [], _, _, _ => rfl
  | [], b :: t, _, _, h => absurd ((h b).2 List.mem_cons_self) (by simp)
  | a :: s, [], _, _, h => absurd ((h a).1 List.mem_cons_self) (by simp)
  | a :: s, b :: t, hA, hB, h => by
    unfold AscI at hA hB
    rw [List.pairwise_cons] at hA hB
    have e : a = b := by
      rcases List.mem_cons.1 ((h a).1 List.mem_cons_self) with e | e
      · exact e
      · rcases List.mem_cons.1 ((h b).2 List.mem_cons_self) with e2 | e2
        · exact e2.symm
        · have h1 := hB.1 a e
          have h2 := hA.1 b e2
          omega
    subst e
    congr 1
    refine asc_same s t hA.2 hB.2 fun n => ⟨fun hn => ?_, fun hn => ?_⟩
    · rcases List.mem_cons.1 ((h n).1 (List.mem_cons_of_mem _ hn)) with rfl | h2
      · exact absurd (hA.1 n hn) (by omega)
      · exact h2
    · rcases List.mem_cons.1 ((h n).2 (List.mem_cons_of_mem _ hn)) with rfl | h2
      · exact absurd (hB.1 n hn) (by omega)
      · exact h2

/-! What is reached step by step. -/
/-- f says which numbers one step or more lead to. -/
structure Lst (F : Int → List Int) (id : Int) (f : Int → Bool) : Prop where
  first : ∀ y ∈ F id, f y = true
  next : ∀ x, f x = true → ∀ y ∈ F x, f y = true
  least : ∀ T : Int → Prop, (∀ y ∈ F id, T y) → (∀ x, T x → ∀ y ∈ F x, T y) → ∀ x, f x = true → T x
def upF (L : List Au) (x : Int) : List Int := match getA L x with | some a => a.above | none => []
theorem up_of (L : List Au) (h : AscA L) (a : Au) (ha : a ∈ L) : upF L a.id = a.above := by
  unfold upF
  rw [get_one L h a ha]
theorem up_mem (L : List Au) (x y : Int) (hy : y ∈ upF L x) : ∃ a ∈ L, a.id = x ∧ y ∈ a.above := by
  unfold upF at hy
  cases e : getA L x with
  | none => rw [e] at hy; cases hy
  | some a =>
    rw [e] at hy
    obtain ⟨h1, h2⟩ := get_some L x a e
    exact ⟨a, h1, h2, hy⟩
theorem up_above (L : List Au) (h : AscA L) (id : Int) (f : Int → Bool) (hf : Lst (upF L) id f) (x : Int) : f x = true ↔ x ∈ aboveA L id := by
  constructor
  · refine hf.least (fun x => x ∈ aboveA L id) (fun y hy => ?_) (fun z hz y hy => ?_) x
    · obtain ⟨a, ha, he, hm⟩ := up_mem L id y hy
      exact above_closed L id a ha (.inl he) y hm
    · obtain ⟨a, ha, he, hm⟩ := up_mem L z y hy
      exact above_closed L id a ha (.inr (by rw [he]; exact hz)) y hm
  · intro hx
    have := iter_within L id ((aboveA L id).filter f) (fun a ha hr y hy => ?_) (L.length + 1) x hx
    · exact (List.mem_filter.1 this).2
    · rw [List.mem_filter]
      rcases hr with hr | hr
      · exact ⟨above_closed L id a ha (.inl hr) y hy, hf.first y (by rw [← hr, up_of L h a ha]; exact hy)⟩
      · rw [List.mem_filter] at hr
        exact ⟨above_closed L id a ha (.inr hr.1) y hy, hf.next a.id hr.2 y (by rw [up_of L h a ha]; exact hy)⟩
def downF (L : List Au) (x : Int) : List Int := L.flatMap fun a => (a.above.filter fun n => decide (n = x)).map fun _ => a.id
theorem down_mem (L : List Au) (x y : Int) : y ∈ downF L x ↔ ∃ a ∈ L, a.id = y ∧ x ∈ a.above := by
  unfold downF
  rw [List.mem_flatMap]
  constructor
  · rintro ⟨a, ha, hy⟩
    rw [List.mem_map] at hy
    obtain ⟨n, hn, rfl⟩ := hy
    rw [List.mem_filter, decide_eq_true_eq] at hn
    exact ⟨a, ha, rfl, by rw [← hn.2]; exact hn.1⟩
  · rintro ⟨a, ha, rfl, hx⟩
    exact ⟨a, ha, List.mem_map.2 ⟨x, List.mem_filter.2 ⟨hx, decide_eq_true rfl⟩, rfl⟩⟩
theorem down_below (L : List Au) (h : AscA L) (id : Int) (f : Int → Bool) (hf : Lst (downF L) id f) (x : Int) : f x = true ↔ x ∈ belowA L id := by
  rw [mem_below]
  constructor
  · refine hf.least (fun x => ∃ a ∈ L, a.id = x ∧ id ∈ aboveA L a.id) (fun y hy => ?_) (fun z hz y hy => ?_) x
    · obtain ⟨a, ha, he, hm⟩ := (down_mem L id y).1 hy
      exact ⟨a, ha, he, above_closed L a.id a ha (.inl rfl) id hm⟩
    · obtain ⟨b, hb, he, hm⟩ := hz
      obtain ⟨a, ha, he2, hm2⟩ := (down_mem L z y).1 hy
      refine ⟨a, ha, he2, above_trans L a.id b.id id ?_ hm⟩
      rw [he]
      exact above_closed L a.id a ha (.inl rfl) z hm2
  · rintro ⟨a, ha, rfl, hx⟩
    have key := iter_within L a.id ((aboveA L a.id).filter fun y => !(decide (y = id) || f y) || f a.id) (fun b hb hr y hy => ?_) (L.length + 1) id hx
    · have := (List.mem_filter.1 key).2
      simpa using this
    · rw [List.mem_filter]
      rcases hr with hr | hr
      · refine ⟨above_closed L a.id b hb (.inl hr) y hy, ?_⟩
        have hba : b = a := by
          have h1 := get_one L h a ha
          have h2 := get_one L h b hb
          rw [hr, h1] at h2
          exact (Option.some.inj h2).symm
        subst hba
        by_cases hy2 : y = id
        · subst hy2
          have := hf.first b.id ((down_mem L y b.id).2 ⟨b, hb, rfl, hy⟩)
          simp [this]
        · cases hfy : f y with
          | false => simp [hy2]
          | true =>
            have := hf.next y hfy b.id ((down_mem L y b.id).2 ⟨b, hb, rfl, hy⟩)
            simp [this]
      · rw [List.mem_filter] at hr
        refine ⟨above_closed L a.id b hb (.inr hr.1) y hy, ?_⟩
        have h3 := hr.2
        cases hfa : f a.id with
        | true => simp
        | false =>
          rw [hfa] at h3
          have hb2 : ¬ b.id = id ∧ f b.id = false := by simpa using h3
          by_cases hy2 : y = id
          · subst hy2
            have := hf.first b.id ((down_mem L y b.id).2 ⟨b, hb, rfl, hy⟩)
            rw [hb2.2] at this
            cases this
          · cases hfy : f y with
            | false => simp [hy2]
            | true =>
              have := hf.next y hfy b.id ((down_mem L y b.id).2 ⟨b, hb, rfl, hy⟩)
              rw [hb2.2] at this
              cases this
end

section
/-! A table that is filled entry by entry: the entries with the last one first; what it holds, and how many keys it has. -/
section
variable {κ ν : Type} [DecidableEq κ]
def updE (s : (κ → Option ν) × Nat) (e : κ × ν) : (κ → Option ν) × Nat := (fun k => if k = e.1 then some e.2 else s.1 k, if (s.1 e.1).isSome = true then s.2 else s.2 + 1)
def mapR : List (κ × ν) → (κ → Option ν) × Nat
  | [] => (fun _ => none, 0)
  | e :: r => updE (mapR r) e
theorem mapR_has : ∀ (R : List (κ × ν)) (k : κ), ((mapR R).1 k).isSome = true ↔ k ∈ R.map (·.1)
  | [], k => by simp [mapR]
  | e :: r, k => by
    show (if k = e.1 then some e.2 else (mapR r).1 k).isSome = true ↔ _
    rw [List.map_cons, List.mem_cons, ← mapR_has r k]
    by_cases h : k = e.1
    · rw [if_pos h]
      simp [h]
    · rw [if_neg h]
      simp [h]
theorem mapR_mem : ∀ (R : List (κ × ν)) (k : κ) (v : ν), (mapR R).1 k = some v → (k, v) ∈ R
  | [], k, v, h => by simp [mapR] at h
  | e :: r, k, v, h => by
    have h' : (if k = e.1 then some e.2 else (mapR r).1 k) = some v := h
    by_cases hk : k = e.1
    · rw [if_pos hk] at h'
      obtain rfl := Option.some.inj h'
      rw [hk]
      simp
    · rw [if_neg hk] at h'
      exact List.mem_cons_of_mem _ (mapR_mem r k v h')
theorem mapR_of : ∀ (R : List (κ × ν)) (k : κ) (v : ν), (R.map (·.1)).Nodup → (k, v) ∈ R → (mapR R).1 k = some v
  | [], k, v, _, h => by cases h
  | e :: r, k, v, hn, h => by
    rw [List.map_cons, List.nodup_cons] at hn
    show (if k = e.1 then some e.2 else (mapR r).1 k) = some v
    rcases List.mem_cons.1 h with rfl | h
    · rw [if_pos rfl]
    · have : k ≠ e.1 := fun he => hn.1 (by rw [← he]; exact List.mem_map.2 ⟨(k, v), h, rfl⟩)
      rw [if_neg this]
      exact mapR_of r k v hn.2 h
theorem mapR_le : ∀ R : List (κ × ν), (mapR R).2 ≤ R.length
  | [] => Nat.le_refl _
  | e :: r => by
    have := mapR_le r
    show (if ((mapR r).1 e.1).isSome = true then (mapR r).2 else (mapR r).2 + 1) ≤ r.length + 1
    split <;> omega
theorem mapR_all : ∀ R : List (κ × ν), (mapR R).2 = R.length ↔ (R.map (·.1)).Nodup
  | [] => by simp [mapR]
  | e :: r => by
    have h0 := mapR_le r
    have h1 := mapR_has r e.1
    show (if ((mapR r).1 e.1).isSome = true then (mapR r).2 else (mapR r).2 + 1) = r.length + 1 ↔ _
    rw [List.map_cons, List.nodup_cons, ← mapR_all r, ← h1]
    by_cases h : ((mapR r).1 e.1).isSome = true
    · rw [if_pos h]
      constructor
      · intro g; omega
      · intro g; exact absurd h g.1
    · rw [if_neg h]
      constructor
      · intro g; exact ⟨h, by omega⟩
      · intro g; omega
end

/-- The entries of an authority: its headings' keys, each with its number and whether it is the preferred form. -/
def entH (a : Au) (k : Nat) : List (List UInt8) → List ((Int × List UInt8) × (Int × Bool))
  | [] => []
  | h :: r => ((a.kind, normX h), (a.id, decide (k = 0))) :: entH a (k + 1) r
def entA (a : Au) := entH a 0 (hdsX a)
def entX (L : List Au) := L.flatMap entA
theorem entH_len (a : Au) : ∀ (k : Nat) (l : List (List UInt8)), (entH a k l).length = l.length
  | _, [] => rfl
  | k, h :: r => by
    show (entH a (k + 1) r).length + 1 = r.length + 1
    rw [entH_len a (k + 1) r]
theorem entH_keys (a : Au) : ∀ (k : Nat) (l : List (List UInt8)), (entH a k l).map (·.1) = l.map fun h => (a.kind, normX h)
  | _, [] => rfl
  | k, h :: r => by
    show _ :: (entH a (k + 1) r).map (·.1) = _ :: r.map _
    rw [entH_keys a (k + 1) r]
theorem entX_keys : ∀ L : List Au, (entX L).map (·.1) = keysX L
  | [] => rfl
  | a :: r => by
    have ih := entX_keys r
    unfold entX keysX at ih ⊢
    rw [List.flatMap_cons, List.flatMap_cons, List.map_append, ih]
    congr 1
    exact entH_keys a 0 (hdsX a)
theorem entH_at (a : Au) : ∀ (k : Nat) (l : List (List UInt8)) (j : Nat), j < l.length → (entH a k l)[j]? = some ((a.kind, normX (l.getD j [])), (a.id, decide (k + j = 0)))
  | k, [], j, h => by simp at h
  | k, h :: r, 0, _ => rfl
  | k, h :: r, j + 1, hj => by
    have := entH_at a (k + 1) r j (by simpa using hj)
    show (entH a (k + 1) r)[j]? = _
    rw [this, show k + 1 + j = k + (j + 1) by omega]
    rfl
theorem entA_take (a : Au) (j : Nat) (hj : j < (hdsX a).length) : (entA a).take (j + 1) = (entA a).take j ++ [((a.kind, normX ((hdsX a).getD j [])), (a.id, decide (j = 0)))] := by
  have h := entH_at a 0 (hdsX a) j hj
  rw [Nat.zero_add] at h
  rw [List.take_add_one]
  unfold entA
  rw [h]
  rfl
theorem entA_len (a : Au) : (entA a).length = (hdsX a).length := entH_len a 0 _
theorem nodup_rev {α : Type} (l : List α) : l.reverse.Nodup ↔ l.Nodup := by
  unfold List.Nodup
  rw [List.pairwise_reverse]
  exact ⟨fun h => h.imp (fun g => Ne.symm g), fun h => h.imp (fun g => Ne.symm g)⟩
/-- Whether all keys differ, by counting. -/
theorem entX_nodup (L : List Au) : (mapR (entX L).reverse).2 = (entX L).length ↔ (keysX L).Nodup := by
  have := mapR_all (entX L).reverse
  rw [List.length_reverse] at this
  rw [this, List.map_reverse, entX_keys]
  exact nodup_rev _
theorem entH_no (a : Au) (n : List UInt8) (v : Int × Bool) (kd : Int) : ∀ (k : Nat) (l : List (List UInt8)), findK n l = none → ((kd, n), v) ∉ entH a k l
  | _, [], _ => by simp [entH]
  | k, h :: r, hf => by
    have hf' := List.findIdx?_eq_none_iff.1 hf
    have h1 := hf' h (by simp)
    have h2 : findK n r = none := List.findIdx?_eq_none_iff.2 fun x hx => hf' x (by simp [hx])
    intro hm
    rcases List.mem_cons.1 hm with e | hm
    · have := (Prod.mk.inj (Prod.mk.inj e).1).2
      rw [← this] at h1
      simp at h1
    · exact entH_no a n v kd (k + 1) r h2 hm
theorem entH_kind (a : Au) (n : List UInt8) (v : Int × Bool) (kd : Int) (hk : a.kind ≠ kd) : ∀ (k : Nat) (l : List (List UInt8)), ((kd, n), v) ∉ entH a k l
  | _, [] => by simp [entH]
  | k, h :: r => by
    intro hm
    rcases List.mem_cons.1 hm with e | hm
    · exact hk (Prod.mk.inj (Prod.mk.inj e).1).1.symm
    · exact entH_kind a n v kd hk (k + 1) r hm
theorem findK_some (n : List UInt8) (l : List (List UInt8)) (k : Nat) (h : findK n l = some k) : k < l.length ∧ normX (l.getD k []) = n := by
  obtain ⟨h1, h2⟩ := List.findIdx?_eq_some_iff_getElem.1 h
  refine ⟨h1, ?_⟩
  rw [List.getD_eq_getElem?_getD, List.getElem?_eq_getElem h1]
  exact eq_of_beq h2.1
/-- What the table says of a key is what is found. -/
theorem find_tab (kd : Int) (n : List UInt8) : ∀ L : List Au, (keysX L).Nodup → findR L kd n = match (mapR (entX L).reverse).1 (kd, n) with | some v => (v.1, v.2, true) | none => (0, false, false) := by
  intro L hn
  have hfind : ∀ M : List Au, (∃ v, ((kd, n), v) ∈ entX M ∧ findR M kd n = (v.1, v.2, true)) ∨ ((∀ v, ((kd, n), v) ∉ entX M) ∧ findR M kd n = (0, false, false)) := by
    intro M
    induction M with
    | nil => exact .inr ⟨(fun v h => by cases h), rfl⟩
    | cons a r ih =>
      unfold findR
      have emem : ∀ e, e ∈ entX (a :: r) ↔ e ∈ entA a ∨ e ∈ entX r := fun e => by unfold entX; rw [List.flatMap_cons, List.mem_append]
      have irest : (∀ v, ((kd, n), v) ∉ entA a) → (∃ v, ((kd, n), v) ∈ entX (a :: r) ∧ findR r kd n = (v.1, v.2, true)) ∨ ((∀ v, ((kd, n), v) ∉ entX (a :: r)) ∧ findR r kd n = (0, false, false)) := by
        intro hno
        rcases ih with ⟨v, h1, h2⟩ | ⟨h1, h2⟩
        · exact .inl ⟨v, (emem _).2 (.inr h1), h2⟩
        · refine .inr ⟨fun v hv => ?_, h2⟩
          rcases (emem _).1 hv with h | h
          · exact hno v h
          · exact h1 v h
      by_cases hk : a.kind = kd
      · rw [if_pos hk]
        cases e : findK n (hdsX a) with
        | some k =>
          obtain ⟨h1, h2⟩ := findK_some n _ k e
          refine .inl ⟨(a.id, decide (k = 0)), (emem _).2 (.inl ?_), rfl⟩
          have := entH_at a 0 (hdsX a) k h1
          rw [h2, hk, Nat.zero_add] at this
          exact List.mem_of_getElem? this
        | none => exact irest (fun v => entH_no a n v kd 0 _ e)
      · rw [if_neg hk]
        exact irest (fun v => entH_kind a n v kd hk 0 _)
  have hnr : ((entX L).reverse.map (·.1)).Nodup := by
    rw [List.map_reverse, entX_keys]
    exact (nodup_rev _).2 hn
  rcases hfind L with ⟨v, h1, h2⟩ | ⟨h1, h2⟩
  · rw [mapR_of _ (kd, n) v hnr (List.mem_reverse.2 h1), h2]
  · cases e : (mapR (entX L).reverse).1 (kd, n) with
    | none => exact h2
    | some v => exact absurd (List.mem_reverse.1 (mapR_mem _ _ v e)) (h1 v)

/-! Turning Above. -/
def plcI (l : List Int) (n : Int) : Nat := plcG (fun x => x) l n
theorem ascI_G (l : List Int) : AscI l ↔ AscG (fun x => x) l := Iff.rfl
def wtI (l : List Int) (n : Int) : List Int := l.take (plcI l n) ++ l.drop (plcI l n + 1)
def inI (l : List Int) (n : Int) : List Int := l.take (plcI l n) ++ n :: l.drop (plcI l n)
theorem mem_plcI (l : List Int) (n : Int) (h : AscI l) : n ∈ l ↔ plcI l n < l.length ∧ l.getD (plcI l n) 0 = n := by
  constructor
  · intro hm
    exact plc_at (fun x => x) 0 l n h n hm rfl
  · rintro ⟨h1, h2⟩
    rw [← h2, List.getD_eq_getElem?_getD, List.getElem?_eq_getElem h1]
    exact List.getElem_mem h1
theorem wtI_eq (l : List Int) (n : Int) (h : AscI l) (hm : n ∈ l) : wtI l n = l.filter fun x => decide (x ≠ n) := by
  obtain ⟨h1, h2⟩ := (mem_plcI l n h).1 hm
  exact (plc_drop (fun x => x) 0 l n h h1 h2).symm
theorem wtI_asc (l : List Int) (n : Int) (h : AscI l) (hm : n ∈ l) : AscI (wtI l n) := by
  rw [wtI_eq l n h hm]
  exact List.Pairwise.filter _ h
theorem inI_asc (l : List Int) (n : Int) (h : AscI l) (hm : n ∉ l) : AscI (inI l n) := asc_put (fun x => x) l n h (fun y hy e => hm (by rw [← e]; exact hy))
theorem mem_inI (l : List Int) (n y : Int) : y ∈ inI l n ↔ y = n ∨ y ∈ l := by
  unfold inI
  rw [List.mem_append, List.mem_cons]
  have := List.take_append_drop (plcI l n) l
  constructor
  · rintro (h | h | h)
    · exact .inr (List.mem_of_mem_take h)
    · exact .inl h
    · exact .inr (List.mem_of_mem_drop h)
  · rintro (h | h)
    · exact .inr (.inl h)
    · rw [← this, List.mem_append] at h
      rcases h with h | h
      · exact .inl h
      · exact .inr (.inr h)
def turnL (into gone id : Int) (l : List Int) : List Int := if gone ∈ l then (if into ∈ wtI l gone ∨ id = into then wtI l gone else inI (wtI l gone) into) else l
def turnP (into gone : Int) (x : Au) : Au := { x with above := turnL into gone x.id x.above }
theorem mem_turn (into gone id y : Int) : ∀ (l out : List Int), y ∈ l.foldl (fun out n => if (if n = gone then into else n) ≠ id then putI out (if n = gone then into else n) else out) out ↔ y ∈ out ∨ (y ≠ id ∧ ∃ n ∈ l, (if n = gone then into else n) = y)
  | [], out => by simp
  | n :: r, out => by
    rw [List.foldl_cons, mem_turn into gone id y r]
    obtain ⟨m, hm⟩ : ∃ m, (if n = gone then into else n) = m := ⟨_, rfl⟩
    rw [hm]
    have hex : (∃ k ∈ n :: r, (if k = gone then into else k) = y) ↔ m = y ∨ ∃ k ∈ r, (if k = gone then into else k) = y := by
      constructor
      · rintro ⟨k, hk, e⟩
        rcases List.mem_cons.1 hk with rfl | hk
        · exact .inl (by rw [← hm]; exact e)
        · exact .inr ⟨k, hk, e⟩
      · rintro (e | ⟨k, hk, e⟩)
        · exact ⟨n, by simp, by rw [hm]; exact e⟩
        · exact ⟨k, by simp [hk], e⟩
    rw [hex]
    by_cases h : m ≠ id
    · rw [if_pos h, mem_put]
      constructor
      · rintro ((rfl | h1) | ⟨h1, h2⟩)
        · exact .inr ⟨h, .inl rfl⟩
        · exact .inl h1
        · exact .inr ⟨h1, .inr h2⟩
      · rintro (h1 | ⟨h1, h2 | h2⟩)
        · exact .inl (.inr h1)
        · exact .inl (.inl h2.symm)
        · exact .inr ⟨h1, h2⟩
    · rw [if_neg h]
      constructor
      · rintro (h1 | ⟨h1, h2⟩)
        · exact .inl h1
        · exact .inr ⟨h1, .inr h2⟩
      · rintro (h1 | ⟨h1, h2 | h2⟩)
        · exact .inl h1
        · exact absurd (by rw [← h2] at h1; exact h1) h
        · exact .inr ⟨h1, h2⟩
theorem turn_asc (into gone id : Int) : ∀ (l out : List Int), AscI out → AscI (l.foldl (fun out n => if (if n = gone then into else n) ≠ id then putI out (if n = gone then into else n) else out) out)
  | [], _, h => h
  | n :: r, out, h => by
    refine turn_asc into gone id r _ ?_
    show AscI (if (if n = gone then into else n) ≠ id then putI out (if n = gone then into else n) else out)
    by_cases hm : (if n = gone then into else n) ≠ id
    · rw [if_pos hm]
      exact putI_asc _ _ h
    · rw [if_neg hm]
      exact h
theorem turn_eq (into gone : Int) (x : Au) (h : AscI x.above) (hx : x.id ∉ x.above) : turnA into gone x = turnP into gone x := by
  unfold turnA turnP
  congr 1
  refine asc_same _ _ (turn_asc into gone x.id _ _ List.Pairwise.nil) ?_ fun y => ?_
  · unfold turnL
    by_cases hg : gone ∈ x.above
    · rw [if_pos hg]
      split
      · exact wtI_asc _ _ h hg
      · rename_i h2
        exact inI_asc _ _ (wtI_asc _ _ h hg) (fun g => h2 (.inl g))
    · rw [if_neg hg]
      exact h
  · rw [mem_turn]
    unfold turnL
    have hself : ∀ y, y ∈ x.above → y ≠ x.id := fun y hy e => hx (by rw [← e]; exact hy)
    by_cases hg : gone ∈ x.above
    · rw [if_pos hg]
      have hmw : ∀ y, y ∈ wtI x.above gone ↔ y ∈ x.above ∧ y ≠ gone := fun y => by rw [wtI_eq _ _ h hg, List.mem_filter, decide_eq_true_eq]
      have hright : (y ∈ (if into ∈ wtI x.above gone ∨ x.id = into then wtI x.above gone else inI (wtI x.above gone) into)) ↔ (y ∈ x.above ∧ y ≠ gone) ∨ (y = into ∧ x.id ≠ into) := by
        by_cases h2 : into ∈ wtI x.above gone ∨ x.id = into
        · rw [if_pos h2, hmw]
          constructor
          · exact .inl
          · rintro (g | ⟨rfl, g⟩)
            · exact g
            · rcases h2 with h2 | h2
              · exact (hmw _).1 h2
              · exact absurd h2 g
        · rw [if_neg h2, mem_inI, hmw]
          constructor
          · rintro (rfl | g)
            · exact .inr ⟨rfl, fun e => h2 (.inr e)⟩
            · exact .inl g
          · rintro (g | ⟨rfl, _⟩)
            · exact .inr g
            · exact .inl rfl
      rw [hright]
      constructor
      · rintro (h1 | ⟨h1, n, hn, e⟩)
        · cases h1
        · by_cases hng : n = gone
          · rw [if_pos hng] at e
            exact .inr ⟨e.symm, fun g => h1 (by rw [← e, g])⟩
          · rw [if_neg hng] at e
            subst e
            exact .inl ⟨hn, hng⟩
      · rintro (⟨h1, h2⟩ | ⟨rfl, h2⟩)
        · exact .inr ⟨hself y h1, y, h1, by rw [if_neg h2]⟩
        · exact .inr ⟨fun e => h2 e.symm, gone, hg, by rw [if_pos rfl]⟩
    · rw [if_neg hg]
      constructor
      · rintro (h1 | ⟨h1, n, hn, e⟩)
        · cases h1
        · rw [if_neg (fun g => hg (by rw [← g]; exact hn))] at e
          rw [← e]
          exact hn
      · intro hy
        exact .inr ⟨hself y hy, y, hy, by rw [if_neg (fun g => hg (by rw [← g]; exact hy))]⟩
end

section
open Go.RowKit Go.PlainAid
set_option maxHeartbeats 1000000 in
theorem isNaN_int (x : Int) (w : World) : Calls Tryz.prog 86 #[.int .i64 x] w fun e w' => e = .returned (.bool false) ∧ w' = w := by
  go_enter Tryz.func86, Tryz.ntmps86
  go_wp2
  go_ret
  exact ⟨by simp, rfl⟩
def cmpZ (x y : Int) : Int := if x < y then -1 else if y < x then 1 else 0
set_option maxHeartbeats 4000000 in
theorem cmp_any (x y : Int) (w : World) : Calls Tryz.prog 65 #[.int .i64 x, .int .i64 y] w fun e w' => e = .returned (.int .i64 (cmpZ x y)) ∧ w' = w := by
  have c1 := isNaN_int x w
  have c2 := isNaN_int y w
  unfold cmpZ
  by_cases h1 : x < y
  · rw [if_pos h1]
    go_enter Tryz.func65, Tryz.ntmps65
    go_wp2_with fail
    refine c1.mono ?_
    rintro e w1 ⟨rfl, rfl⟩
    go_wp2_with fail
    refine c2.mono ?_
    rintro e w1 ⟨rfl, rfl⟩
    go_wp2
    go_ret
    exact ⟨rfl, rfl⟩
  · rw [if_neg h1]
    by_cases h2 : y < x
    · rw [if_pos h2]
      go_enter Tryz.func65, Tryz.ntmps65
      go_wp2_with fail
      refine c1.mono ?_
      rintro e w1 ⟨rfl, rfl⟩
      go_wp2_with fail
      refine c2.mono ?_
      rintro e w1 ⟨rfl, rfl⟩
      go_wp2
      go_ret
      exact ⟨rfl, rfl⟩
    · rw [if_neg h2]
      go_enter Tryz.func65, Tryz.ntmps65
      go_wp2_with fail
      refine c1.mono ?_
      rintro e w1 ⟨rfl, rfl⟩
      go_wp2_with fail
      refine c2.mono ?_
      rintro e w1 ⟨rfl, rfl⟩
      go_wp2
      go_ret
      exact ⟨rfl, rfl⟩
set_option maxHeartbeats 4000000 in
theorem placeF_any (y : Int) (x1 x2 x3 x4 : Value) (id : Int) (w : World) : Calls Tryz.prog 64 #[.agg #[.int .i64 y, x1, x2, x3, x4], .int .i64 id] w fun e w' => e = .returned (.int .i64 (cmpZ y id)) ∧ Below w.heap.size w w' := by
  obtain ⟨W0, hW0⟩ : ∃ W, w.alloc (.cells #[.int .i64 y, x1, x2, x3, x4] 31) = W := ⟨_, rfl⟩
  have b0 : Below w.heap.size w W0 := by rw [← hW0]; exact (Below.refl _ _).alloc (Nat.le_refl _) _
  have k0 : W0.cell? ⟨w.heap.size, 0, none⟩ = some (.int .i64 y) := by rw [← hW0]; simp
  have c1 := cmp_any y id W0
  have HW0 := Lib.hid hW0
  clear hW0
  go_enter Tryz.func64, Tryz.ntmps64
  go_upto_region 1 with fail
  rw [HW0.out]
  go_wp2_with fail
  refine c1.mono ?_
  rintro e w1 ⟨rfl, hw1⟩
  rw [hw1]
  go_wp2
  go_ret
  exact ⟨rfl, b0⟩
theorem cmpZ_lt (x y : Int) : cmpZ x y < 0 ↔ x < y := by unfold cmpZ; split <;> (try split) <;> omega
theorem cmpZ_eq (x y : Int) : cmpZ x y = 0 ↔ x = y := by unfold cmpZ; split <;> (try split) <;> omega

set_option maxHeartbeats 16000000 in
set_option maxRecDepth 100000 in
theorem search_any (v : Value) (L : List Au) (id : Int) (w : World) (hv : AL v L w) (hs : AscA L) (hz : L.length ≤ 1000000) :
    Calls Tryz.prog 63 #[v, .int .i64 id, .func (.func 64) #[] #[]] w fun e w' => e = .returned (.tuple #[.int .i64 (plcA L id : Nat), .bool (getA L id).isSome]) ∧ Below w.heap.size w w' := by
  have HV := Lib.hid hv
  have HS := Lib.hid hs
  obtain ⟨va, vc, rfl, hc1, hc2⟩ := hv.length
  unfold maxLen at hc2
  obtain ⟨n, hn⟩ : ∃ n, L.length = n := ⟨_, rfl⟩
  have HN := Lib.hid hn
  rw [hn] at HV hc1 hz ⊢
  obtain ⟨k, hk⟩ : ∃ k, plcA L id = k := ⟨_, rfl⟩
  obtain ⟨b, hb⟩ : ∃ b, (getA L id).isSome = b := ⟨_, rfl⟩
  have HB : RowKit.Hid (b = decide (k < n ∧ (L.getD k au0).id = id)) := by
    have := get_plc L id hs
    unfold RowKit.Hid
    rw [hb, hk, hn] at this
    rw [Bool.eq_iff_iff, this, decide_eq_true_iff]
  have HKe := Lib.hid (fun (m : Nat) (h0 : m ≤ n) (h1 : ∀ t, t < m → (L.getD t au0).id < id) (h2 : ∀ t, m ≤ t → t < n → id ≤ (L.getD t au0).id) => hk.symm.trans (plc_eq Au.id au0 L id m (by rw [hn]; exact h0) h1 (by rw [hn]; exact h2)))
  have HM : RowKit.Hid (∀ a b, a ≤ b → b < n → (L.getD b au0).id < id → (L.getD a au0).id < id) := by
    intro a b hab hbn h
    rw [← hn] at hbn
    rcases Nat.lt_or_eq_of_le hab with h1 | rfl
    · have := List.pairwise_iff_getElem.1 hs a b (by omega) hbn h1
      rw [← getD_at13 L a (by omega), ← getD_at13 L b hbn] at this
      omega
    · exact h
  rw [hk, hb]
  clear hs hv hn hk hb
  go_enter Tryz.func63, Tryz.ntmps63
  go_wp2
  go_loopg [9, 10] n (fun kx s9 s10 wr => ∃ lo hi : Nat, s9 = .int .i64 lo ∧ s10 = .int .i64 hi ∧ lo ≤ hi ∧ hi ≤ n ∧ hi - lo ≤ kx ∧ RowKit.Hid (Below w.heap.size w wr) ∧
    RowKit.Hid ((∀ t, t < lo → (L.getD t au0).id < id) ∧ (∀ t, hi ≤ t → t < n → id ≤ (L.getD t au0).id)))
  case atStart => exact ⟨0, n, rfl, rfl, Nat.zero_le _, Nat.le_refl _, by omega, Below.refl _ _, ⟨fun t ht => absurd ht (Nat.not_lt_zero _), fun t h1 h2 => by omega⟩⟩
  case round =>
    obtain ⟨lo, hi, rfl, rfl, hlh, hin, hg, HBw, I⟩ := hrel
    by_cases hlt : lo < hi
    · obtain ⟨g, o, cap', s, t, he, hgl, c0, c1, c2, c3, c4, hq⟩ := (HV.out.after HBw.out).at ((lo + hi) / 2) (by rw [HN.out]; omega)
      obtain ⟨rfl, -, hcp⟩ := Value.slice.inj he
      obtain ⟨as2, cs2, hs2, -, -⟩ := hq.1.length
      obtain ⟨at2, ct2, ht2, -⟩ := hq.2
      subst hs2 ht2
      have cP := Lib.hid (fun x1 x2 x3 x4 => placeF_any (L.getD ((lo + hi) / 2) au0).id x1 x2 x3 x4 id wr)
      have HY : RowKit.Hid (∃ y, (L.getD ((lo + hi) / 2) au0).id = y ∧ y = (L.getD ((lo + hi) / 2) au0).id) := ⟨_, rfl, rfl⟩
      obtain ⟨y, hy, hy2⟩ := HY.out
      rw [hy] at c0 cP
      have Y := Lib.hid hy
      clear he hcp hq hy hy2 HY
      generalize (L.getD ((lo + hi) / 2) au0).kind = yk at *
      generalize S (L.getD ((lo + hi) / 2) au0).heading = yh at *
      generalize (L.getD ((lo + hi) / 2) au0).see.length = ys at *
      generalize (L.getD ((lo + hi) / 2) au0).above.length = ya at *
      have HL := Lib.hid hlt
      by_cases hyx : y < id
      · have hd : decide (cmpZ y id < 0) = true := decide_eq_true ((cmpZ_lt y id).2 hyx)
        have hd2 : cmpZ y id < 0 := (cmpZ_lt y id).2 hyx
        generalize cmpZ y id = z at *
        go_wp2_with fail
        refine (cP.out _ _ _ _).mono ?_
        rintro e w1 ⟨rfl, hb1⟩
        have HB1 := Lib.hid (HBw.out.trans (hb1.mono HBw.out.size))
        clear hb1
        go_wp2
        go_roundg (hi - ((lo + hi) / 2 + 1))
        case measure => omega
        case rel =>
          have I2 : RowKit.Hid ((∀ t, t < (lo + hi) / 2 + 1 → (L.getD t au0).id < id) ∧ (∀ t, hi ≤ t → t < n → id ≤ (L.getD t au0).id)) := ⟨fun t ht => HM.out t ((lo + hi) / 2) (by omega) (by omega) (by rw [Y.out]; exact hyx), I.out.2⟩
          exact ⟨(lo + hi) / 2 + 1, hi, by rw [show ((lo : Int) + (hi : Int)) / 2 + 1 = (((lo + hi) / 2 + 1 : Nat) : Int) by omega], rfl, by omega, hin, Nat.le_refl _, HB1, I2⟩
      · have hd : decide (cmpZ y id < 0) = false := decide_eq_false (fun h => hyx ((cmpZ_lt y id).1 h))
        have hd2 : ¬ cmpZ y id < 0 := fun h => hyx ((cmpZ_lt y id).1 h)
        generalize cmpZ y id = z at *
        go_wp2_with fail
        refine (cP.out _ _ _ _).mono ?_
        rintro e w1 ⟨rfl, hb1⟩
        have HB1 := Lib.hid (HBw.out.trans (hb1.mono HBw.out.size))
        clear hb1
        go_wp2
        go_roundg ((lo + hi) / 2 - lo)
        case measure => omega
        case rel =>
          have I2 : RowKit.Hid ((∀ t, t < lo → (L.getD t au0).id < id) ∧ (∀ t, (lo + hi) / 2 ≤ t → t < n → id ≤ (L.getD t au0).id)) := ⟨I.out.1, fun t ht htn => Int.not_lt.1 fun h => by have := HM.out ((lo + hi) / 2) t ht htn h; rw [Y.out] at this; omega⟩
          exact ⟨lo, (lo + hi) / 2, rfl, by rw [show ((lo : Int) + (hi : Int)) / 2 = (((lo + hi) / 2 : Nat) : Int) by omega], by omega, by omega, Nat.le_refl _, HB1, I2⟩
    · obtain rfl : hi = lo := by omega
      obtain rfl : k = hi := HKe.out hi hin I.out.1 I.out.2
      by_cases hkn : k < n
      · obtain ⟨g, o, cap', s, t, he, hgl, c0, c1, c2, c3, c4, hq⟩ := (HV.out.after HBw.out).at k (by rw [HN.out]; omega)
        obtain ⟨rfl, -, hcp⟩ := Value.slice.inj he
        obtain ⟨as2, cs2, hs2, -, -⟩ := hq.1.length
        obtain ⟨at2, ct2, ht2, -⟩ := hq.2
        subst hs2 ht2
        have cP := Lib.hid (fun x1 x2 x3 x4 => placeF_any (L.getD k au0).id x1 x2 x3 x4 id wr)
        obtain ⟨y, hy⟩ : ∃ y, (L.getD k au0).id = y := ⟨_, rfl⟩
        have HB2 := HB.out
        rw [hy] at c0 cP HB2
        have i2 : (k : Int) < (n : Int) := by omega
        have i1 : (0 : Int) ≤ (k : Int) := by omega
        have hbb : b = (cmpZ y id == 0) := by
          rw [HB2, Bool.eq_iff_iff, decide_eq_true_iff, beq_iff_eq, cmpZ_eq]
          exact ⟨fun h => h.2, fun h => ⟨hkn, h⟩⟩
        have HBB := Lib.hid hbb
        clear he hcp hq hy HB2 hbb
        generalize (L.getD k au0).kind = yk at *
        generalize S (L.getD k au0).heading = yh at *
        generalize (L.getD k au0).see.length = ys at *
        generalize (L.getD k au0).above.length = ya at *
        generalize cmpZ y id = z at *
        go_wp2_with fail
        refine (cP.out _ _ _ _).mono ?_
        rintro e w1 ⟨rfl, hb1⟩
        have HB1 := Lib.hid (HBw.out.trans (hb1.mono HBw.out.size))
        clear hb1
        go_wp2
        go_ret2
        exact ⟨by rw [HBB.out]; rfl, HB1.out⟩
      · obtain rfl : k = n := by omega
        obtain rfl : b = false := by rw [HB.out]; exact decide_eq_false (fun h => hkn h.1)
        have d0 : decide ((k : Int) < (k : Int)) = false := decide_eq_false (by omega)
        go_wp2
        go_ret2
        exact ⟨rfl, HBw.out⟩

set_option maxHeartbeats 4000000 in
theorem place_any (v : Value) (L : List Au) (id : Int) (w : World) (hv : AL v L w) (hs : AscA L) (hz : L.length ≤ 1000000) :
    Calls Tryz.prog 34 #[v, .int .i64 id] w fun e w' => e = .returned (.tuple #[.int .i64 (plcA L id : Nat), .bool (getA L id).isSome]) ∧ Below w.heap.size w w' := by
  have c1 := search_any v L id w hv hs hz
  obtain ⟨va, vc, rfl, hc1, hc2⟩ := hv.length
  generalize (getA L id).isSome = b at *
  generalize plcA L id = k at *
  generalize L.length = n at *
  go_enter Tryz.func34, Tryz.ntmps34
  go_wp2_with fail
  refine c1.mono ?_
  rintro e w1 ⟨rfl, hb1⟩
  go_wp2
  go_ret2
  exact ⟨rfl, hb1⟩
end

end Go.Proofs.YtmcolapcmjdoeaaGreatDoor
