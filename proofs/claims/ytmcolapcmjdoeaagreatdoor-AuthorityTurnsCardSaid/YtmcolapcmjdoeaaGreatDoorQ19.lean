/- Merged: Plain13B, Plain13C, Plain13D. -/
import Derived.Test.YtmcolapcmjdoeaaGreatDoorQ04
namespace Go.Proofs.YtmcolapcmjdoeaaGreatDoor

section
theorem mem_ins (n x : Int) : ∀ l : List Int, x ∈ insI l n ↔ x = n ∨ x ∈ l
  | [] => by simp [insI]
  | y :: r => by
    have ih := mem_ins n x r
    unfold insI
    split
    · simp
    · simp only [List.mem_cons, ih]
      constructor
      · rintro (h | h | h)
        · exact .inr (.inl h)
        · exact .inl h
        · exact .inr (.inr h)
      · rintro (h | h | h)
        · exact .inr (.inl h)
        · exact .inl h
        · exact .inr (.inr h)
theorem mem_put (l : List Int) (n x : Int) : x ∈ putI l n ↔ x = n ∨ x ∈ l := by
  unfold putI
  split
  · rename_i h
    constructor
    · exact .inr
    · rintro (rfl | h2)
      · exact h
      · exact h2
  · exact mem_ins n x l
theorem mem_puts (x : Int) : ∀ (ns l : List Int), x ∈ ns.foldl putI l ↔ x ∈ ns ∨ x ∈ l
  | [], l => by simp
  | n :: r, l => by
    rw [List.foldl_cons, mem_puts x r, mem_put]
    simp only [List.mem_cons]
    constructor
    · rintro (h | h | h)
      · exact .inl (.inr h)
      · exact .inl (.inl h)
      · exact .inr h
    · rintro ((h | h) | h)
      · exact .inr (.inl h)
      · exact .inl h
      · exact .inr (.inr h)
/-- One authority of a round. -/
def stepA (id : Int) (out : List Int) (a : Au) : List Int := if a.id ≠ id ∧ a.id ∉ out then out else a.above.foldl putI out
theorem round_fold (l : List Au) (id : Int) (out : List Int) : roundA l id out = l.foldl (stepA id) out := rfl
theorem step_sub (id : Int) (out : List Int) (a : Au) : ∀ x ∈ out, x ∈ stepA id out a := by
  intro x hx
  unfold stepA
  split
  · exact hx
  · exact (mem_puts x _ _).2 (.inr hx)
theorem step_take (id : Int) (out : List Int) (a : Au) (h : a.id = id ∨ a.id ∈ out) : ∀ x ∈ a.above, x ∈ stepA id out a := by
  intro x hx
  unfold stepA
  rw [if_neg (by
    rintro ⟨h1, h2⟩
    rcases h with h | h
    · exact h1 h
    · exact h2 h)]
  exact (mem_puts x _ _).2 (.inl hx)
theorem fold_sub (id : Int) : ∀ (l : List Au) (out : List Int), ∀ x ∈ out, x ∈ l.foldl (stepA id) out
  | [], _, _, h => h
  | a :: r, out, x, h => fold_sub id r _ x (step_sub id out a x h)
theorem fold_take (id : Int) : ∀ (l : List Au) (out : List Int), ∀ a ∈ l, (a.id = id ∨ a.id ∈ out) → ∀ x ∈ a.above, x ∈ l.foldl (stepA id) out
  | [], _, _, h, _, _, _ => by cases h
  | b :: r, out, a, h, hr, x, hx => by
    rcases List.mem_cons.1 h with rfl | h
    · exact fold_sub id r _ x (step_take id out a hr x hx)
    · refine fold_take id r _ a h ?_ x hx
      rcases hr with hr | hr
      · exact .inl hr
      · exact .inr (step_sub id out b _ hr)
/-- A set that holds what is above its members and above `id`. -/
def Closed (l : List Au) (id : Int) (out : List Int) : Prop := ∀ a ∈ l, (a.id = id ∨ a.id ∈ out) → ∀ x ∈ a.above, x ∈ out
theorem fold_within (id : Int) (T : List Int) : ∀ (l : List Au) (out : List Int), (∀ a ∈ l, (a.id = id ∨ a.id ∈ T) → ∀ x ∈ a.above, x ∈ T) → (∀ x ∈ out, x ∈ T) → ∀ x ∈ l.foldl (stepA id) out, x ∈ T
  | [], _, _, h => h
  | a :: r, out, hT, h => by
    refine fold_within id T r _ (fun b hb => hT b (by simp [hb])) ?_
    intro x hx
    unfold stepA at hx
    split at hx
    · exact h x hx
    · rename_i hn
      rcases (mem_puts x _ _).1 hx with hx | hx
      · refine hT a (by simp) ?_ x hx
        by_cases h1 : a.id = id
        · exact .inl h1
        · refine .inr (h _ ?_)
          by_cases h2 : a.id ∈ out
          · exact h2
          · exact absurd ⟨h1, h2⟩ hn
      · exact h x hx
theorem iter_within (l : List Au) (id : Int) (T : List Int) (hT : ∀ a ∈ l, (a.id = id ∨ a.id ∈ T) → ∀ x ∈ a.above, x ∈ T) : ∀ k, ∀ x ∈ iterA l id k, x ∈ T
  | 0 => by intro x hx; cases hx
  | k + 1 => by
    show ∀ x ∈ roundA l id (iterA l id k), x ∈ T
    rw [round_fold]
    exact fold_within id T l _ hT (iter_within l id T hT k)
theorem iter_sub (l : List Au) (id : Int) (k : Nat) : ∀ x ∈ iterA l id k, x ∈ iterA l id (k + 1) := by
  show ∀ x ∈ iterA l id k, x ∈ roundA l id (iterA l id k)
  rw [round_fold]
  exact fold_sub id l _
/-- How many authorities a set reaches. -/
def reach (l : List Au) (id : Int) (out : List Int) : Nat := l.countP fun a => decide (a.id = id ∨ a.id ∈ out)
theorem reach_le (l : List Au) (id : Int) (out : List Int) : reach l id out ≤ l.length := List.countP_le_length
theorem count_same {p q : Au → Bool} : ∀ l : List Au, (∀ a ∈ l, p a = true → q a = true) → l.countP q ≤ l.countP p → ∀ a ∈ l, q a = true → p a = true
  | [], _, _, _, h, _ => by cases h
  | b :: r, hpq, hc, a, ha, hq => by
    have hr := fun a ha => hpq a (List.mem_cons_of_mem b ha)
    have hle : r.countP p ≤ r.countP q := List.countP_mono_left (fun x hx h => hr x hx h)
    rw [List.countP_cons, List.countP_cons] at hc
    have hb := hpq b (by simp)
    have h2 : r.countP q ≤ r.countP p ∧ (q b = true → p b = true) := by
      cases e1 : p b <;> cases e2 : q b
      · simp [e1, e2] at hc ⊢; omega
      · simp [e1, e2] at hc; omega
      · rw [hb e1] at e2; cases e2
      · simp [e1, e2] at hc ⊢; omega
    rcases List.mem_cons.1 ha with rfl | ha
    · exact h2.2 hq
    · exact count_same r hr h2.1 a ha hq
theorem reach_mono (l : List Au) (id : Int) (k : Nat) : reach l id (iterA l id k) ≤ reach l id (iterA l id (k + 1)) := by
  unfold reach
  refine List.countP_mono_left (fun a _ h => ?_)
  rw [decide_eq_true_eq] at h ⊢
  rcases h with h | h
  · exact .inl h
  · exact .inr (iter_sub l id k _ h)
theorem closed_at (l : List Au) (id : Int) (k : Nat) (h : reach l id (iterA l id (k + 1)) ≤ reach l id (iterA l id k)) : Closed l id (iterA l id (k + 1)) := by
  intro a ha hr x hx
  have hs := count_same (p := fun a => decide (a.id = id ∨ a.id ∈ iterA l id k)) (q := fun a => decide (a.id = id ∨ a.id ∈ iterA l id (k + 1))) l (by
    intro a _ h
    rw [decide_eq_true_eq] at h ⊢
    rcases h with h | h
    · exact .inl h
    · exact .inr (iter_sub l id k _ h)) h a ha (decide_eq_true hr)
  rw [decide_eq_true_eq] at hs
  show x ∈ roundA l id (iterA l id k)
  rw [round_fold]
  exact fold_take id l _ a ha hs x hx
theorem closed_next (l : List Au) (id : Int) (k : Nat) (h : Closed l id (iterA l id k)) : Closed l id (iterA l id (k + 1)) := by
  have hw := fold_within id (iterA l id k) l (iterA l id k) h (fun x hx => hx)
  intro a ha hr x hx
  refine iter_sub l id k x (h a ha ?_ x hx)
  rcases hr with hr | hr
  · exact .inl hr
  · exact .inr (hw _ hr)
theorem closed_or (l : List Au) (id : Int) : ∀ k, Closed l id (iterA l id k) ∨ k ≤ reach l id (iterA l id k)
  | 0 => .inr (Nat.zero_le _)
  | k + 1 => by
    rcases closed_or l id k with h | h
    · exact .inl (closed_next l id k h)
    · by_cases h2 : reach l id (iterA l id (k + 1)) ≤ reach l id (iterA l id k)
      · exact .inl (closed_at l id k h2)
      · exact .inr (by omega)
theorem above_closed (l : List Au) (id : Int) : Closed l id (aboveA l id) := by
  rcases closed_or l id (l.length + 1) with h | h
  · exact h
  · have := reach_le l id (iterA l id (l.length + 1))
    omega
/-- Who is above one is above all below it. -/
theorem above_trans (l : List Au) (i k j : Int) (h1 : k ∈ aboveA l i) (h2 : j ∈ aboveA l k) : j ∈ aboveA l i := by
  refine iter_within l k (aboveA l i) (fun a ha hr => above_closed l i a ha ?_) _ j h2
  rcases hr with hr | hr
  · rw [hr]; exact .inr h1
  · exact .inr hr
theorem mem_below (l : List Au) (id x : Int) : x ∈ belowA l id ↔ ∃ a ∈ l, a.id = x ∧ id ∈ aboveA l a.id := by
  have key : ∀ (r : List Au) (out : List Int), x ∈ r.foldl (fun out a => if id ∈ aboveA l a.id then putI out a.id else out) out ↔ x ∈ out ∨ ∃ a ∈ r, a.id = x ∧ id ∈ aboveA l a.id := by
    intro r
    induction r with
    | nil => intro out; simp
    | cons a r ih =>
      intro out
      rw [List.foldl_cons, ih]
      by_cases h : id ∈ aboveA l a.id
      · rw [if_pos h, mem_put]
        constructor
        · rintro ((rfl | h1) | ⟨b, hb, h1⟩)
          · exact .inr ⟨a, by simp, rfl, h⟩
          · exact .inl h1
          · exact .inr ⟨b, by simp [hb], h1⟩
        · rintro (h1 | ⟨b, hb, h1, h2⟩)
          · exact .inl (.inr h1)
          · rcases List.mem_cons.1 hb with rfl | hb
            · exact .inl (.inl h1.symm)
            · exact .inr ⟨b, hb, h1, h2⟩
      · rw [if_neg h]
        constructor
        · rintro (h1 | ⟨b, hb, h1⟩)
          · exact .inl h1
          · exact .inr ⟨b, by simp [hb], h1⟩
        · rintro (h1 | ⟨b, hb, h1, h2⟩)
          · exact .inl h1
          · rcases List.mem_cons.1 hb with rfl | hb
            · exact absurd h2 h
            · exact .inr ⟨b, hb, h1, h2⟩
  unfold belowA
  rw [key]
  simp
/-- One is above another one exactly if that one is below it. -/
theorem above_below (l : List Au) (a : Au) (ha : a ∈ l) (id : Int) : id ∈ aboveA l a.id ↔ a.id ∈ belowA l id := by
  rw [mem_below]
  constructor
  · intro h; exact ⟨a, ha, rfl, h⟩
  · rintro ⟨b, _, h1, h2⟩
    rw [h1] at h2
    exact h2
end

section
theorem firstI_all : ∀ L : List Int, firstI L = 0 → ∀ e ∈ L, e = 0
  | [], _, e, h => by cases h
  | x :: r, h0, e, h => by
    unfold firstI at h0
    rw [List.find?_cons] at h0
    by_cases hx : x = 0
    · subst hx
      have h1 : firstI r = 0 := by
        unfold firstI
        simpa using h0
      rcases List.mem_cons.1 h with rfl | h
      · rfl
      · exact firstI_all r h1 e h
    · have : (x != 0) = true := by simpa using hx
      rw [this] at h0
      exact absurd (by simpa using h0) hx
theorem right_out (l : List Au) (h : rightA l = 0) : l.length ≤ 64 ∧ onesI none l = 0 ∧ (keysX l).Nodup ∧ (∀ a ∈ l, abvE l a = 0) ∧ ∀ a ∈ l, a.id ∉ aboveA l a.id := by
  unfold rightA at h
  split at h
  · cases h
  rename_i h1
  split at h
  · rename_i h2
    exact absurd h h2
  rename_i h2
  split at h
  · cases h
  rename_i h3
  split at h
  · rename_i h4
    exact absurd h h4
  rename_i h4
  split at h
  · cases h
  rename_i h5
  refine ⟨by omega, Decidable.of_not_not h2, Decidable.of_not_not h3, ?_, ?_⟩
  · intro a ha
    exact firstI_all _ (Decidable.of_not_not h4) _ (List.mem_map.2 ⟨a, ha, rfl⟩)
  · intro a ha hm
    exact h5 (List.any_eq_true.2 ⟨a, ha, decide_eq_true hm⟩)
theorem one_out (b : Option Int) (a : Au) (h : oneI b a = 0) : 1 ≤ a.id ∧ a.id ≤ 9999 ∧ (∀ x, b = some x → x < a.id) ∧ shapeI a = 0 := by
  unfold oneI at h
  by_cases h1 : a.id < 1 ∨ 9999 < a.id
  · rw [if_pos h1] at h; cases h
  rw [if_neg h1] at h
  cases b with
  | none =>
    refine ⟨by omega, by omega, (fun x hx => by cases hx), ?_⟩
    simpa using h
  | some y =>
    by_cases h2 : a.id ≤ y
    · simp [h2] at h
    · refine ⟨by omega, by omega, ?_, ?_⟩
      · intro x hx
        obtain rfl := Option.some.inj hx
        omega
      · simpa [h2] using h
/-- IDs ascend, and each authority by itself is right. -/
theorem ones_out : ∀ (l : List Au) (b : Option Int), onesI b l = 0 → (l.Pairwise fun x y => x.id < y.id) ∧ (∀ a ∈ l, shapeI a = 0 ∧ 1 ≤ a.id ∧ a.id ≤ 9999) ∧ ∀ x, b = some x → ∀ a ∈ l, x < a.id
  | [], _, _ => ⟨List.Pairwise.nil, (fun a h => by cases h), fun _ _ a h => by cases h⟩
  | a :: r, b, h => by
    unfold onesI at h
    split at h
    · rename_i h1
      exact absurd h h1
    rename_i h1
    obtain ⟨g1, g2, g3, g4⟩ := one_out b a (Decidable.of_not_not h1)
    obtain ⟨i1, i2, i3⟩ := ones_out r (some a.id) h
    refine ⟨List.Pairwise.cons (i3 a.id rfl) i1, ?_, ?_⟩
    · intro c hc
      rcases List.mem_cons.1 hc with rfl | hc
      · exact ⟨g4, g1, g2⟩
      · exact i2 c hc
    · intro x hx c hc
      have := g3 x hx
      rcases List.mem_cons.1 hc with rfl | hc
      · exact this
      · have := i3 a.id rfl c hc
        omega
theorem get_some (l : List Au) (id : Int) (a : Au) (h : getA l id = some a) : a ∈ l ∧ a.id = id := by
  unfold getA at h
  exact ⟨List.mem_of_find?_eq_some h, by simpa using List.find?_some h⟩
theorem get_none (l : List Au) (id : Int) (h : getA l id = none) : ∀ a ∈ l, a.id ≠ id := by
  intro a ha e
  unfold getA at h
  have := List.find?_eq_none.1 h a ha
  simp [e] at this
theorem get_mem (l : List Au) (id : Int) : (∃ a ∈ l, a.id = id) → ∃ a, getA l id = some a := by
  rintro ⟨a, ha, e⟩
  cases h : getA l id with
  | none => exact absurd e (get_none l id h a ha)
  | some b => exact ⟨b, rfl⟩
theorem get_one (l : List Au) (hp : l.Pairwise fun x y => x.id < y.id) (a : Au) (ha : a ∈ l) : getA l a.id = some a := by
  induction l with
  | nil => cases ha
  | cons b r ih =>
    unfold getA
    rw [List.find?_cons]
    rw [List.pairwise_cons] at hp
    rcases List.mem_cons.1 ha with rfl | ha
    · simp
    · have := hp.1 a ha
      have hne : (b.id == a.id) = false := by
        rw [beq_eq_false_iff_ne]
        omega
      rw [hne]
      exact ih hp.2 ha
theorem find_key (kind : Int) (n : List UInt8) (b : Au) : ∀ l : List Au, (keysX l).Nodup → b ∈ l → b.kind = kind → (∃ h ∈ hdsX b, normX h = n) → ∃ p, findR l kind n = (b.id, p, true)
  | [], _, hb, _, _ => by cases hb
  | a :: r, hn, hb, hk, hh => by
    have hn2 : (keysA a ++ keysX r).Nodup := by simpa [keysX] using hn
    rw [List.nodup_append] at hn2
    obtain ⟨_, n2, n3⟩ := hn2
    unfold findR
    by_cases hak : a.kind = kind
    · rw [if_pos hak]
      cases e : findK n (hdsX a) with
      | some k =>
        rcases List.mem_cons.1 hb with rfl | hb
        · exact ⟨_, rfl⟩
        · exfalso
          obtain ⟨h1, h2⟩ := List.findIdx?_eq_some_iff_getElem.1 e
          obtain ⟨h, hh1, hh2⟩ := hh
          have m1 : (kind, n) ∈ keysA a := by
            refine List.mem_map.2 ⟨(hdsX a)[k], List.getElem_mem h1, ?_⟩
            rw [hak, eq_of_beq h2.1]
          have m2 : (kind, n) ∈ keysX r := by
            refine List.mem_flatMap.2 ⟨b, hb, List.mem_map.2 ⟨h, hh1, ?_⟩⟩
            rw [hk, hh2]
          exact n3 _ m1 _ m2 rfl
      | none =>
        rcases List.mem_cons.1 hb with rfl | hb
        · exfalso
          obtain ⟨h, hh1, hh2⟩ := hh
          have := List.findIdx?_eq_none_iff.1 e h hh1
          rw [hh2] at this
          simp at this
        · exact find_key kind n b r n2 hb hk hh
    · rw [if_neg hak]
      rcases List.mem_cons.1 hb with rfl | hb
      · exact absurd hk hak
      · exact find_key kind n b r n2 hb hk hh
theorem shape_norm (a : Au) (h : shapeI a = 0) : ∀ x ∈ hdsX a, normX x ≠ [] := by
  intro x hx
  unfold shapeI at h
  split at h
  · cases h
  split at h
  · rename_i h2
    exact absurd h h2
  rename_i h2
  have := firstI_all _ (Decidable.of_not_not h2) _ (List.mem_map.2 ⟨x, hx, rfl⟩)
  unfold hdE at this
  split at this
  · cases this
  · rename_i h3
    intro e
    exact h3 (.inr (.inr (.inl e)))
/-- A heading of an authority leads to it. -/
theorem find_lead (l : List Au) (hr : rightA l = 0) (b : Au) (hb : b ∈ l) (x h : List UInt8) (hh : h ∈ hdsX b) (he : normX x = normX h) : ∃ p, findA l b.kind x = (b.id, p, true) := by
  obtain ⟨_, r2, r3, _, _⟩ := right_out l hr
  obtain ⟨_, o2, _⟩ := ones_out l none r2
  have hne := shape_norm b (o2 b hb).1 h hh
  unfold findA
  rw [he, if_neg hne]
  exact find_key b.kind (normX h) b l r3 hb rfl ⟨h, hh, rfl⟩
theorem check_out (l x : List Au) (h : checkA l = (x, 0)) : x = l ∧ rightA l = 0 := by
  unfold checkA at h
  split at h
  · rename_i h1
    exact ⟨(Prod.mk.inj h).1.symm, h1⟩
  · rename_i h1
    exact absurd (Prod.mk.inj h).2 h1
theorem mem_insA (a : Au) (x : Au) : ∀ l : List Au, x ∈ insA l a ↔ x = a ∨ x ∈ l
  | [] => by simp [insA]
  | y :: r => by
    have ih := mem_insA a x r
    unfold insA
    split
    · simp
    · simp only [List.mem_cons, ih]
      constructor
      · rintro (h | h | h)
        · exact .inr (.inl h)
        · exact .inl h
        · exact .inr (.inr h)
      · rintro (h | h | h)
        · exact .inr (.inl h)
        · exact .inl h
        · exact .inr (.inr h)
theorem wout_none (l : List Au) (id : Int) (h : ∀ b ∈ l, b.id ≠ id) : woutA l id = l := by
  unfold woutA
  rw [List.filter_eq_self]
  intro b hb
  exact decide_eq_true (h b hb)
theorem wout_ins (a : Au) : ∀ l : List Au, (∀ b ∈ l, b.id ≠ a.id) → woutA (insA l a) a.id = l
  | [], _ => by simp [insA, woutA]
  | y :: r, h => by
    have hy := h y (by simp)
    have hr : ∀ b ∈ r, b.id ≠ a.id := fun b hb => h b (by simp [hb])
    unfold insA
    split
    · have e := wout_none (y :: r) a.id h
      unfold woutA at e ⊢
      rw [List.filter_cons, if_neg (by simp)]
      exact e
    · have ih := wout_ins a r hr
      unfold woutA at ih ⊢
      rw [List.filter_cons, if_pos (decide_eq_true hy), ih]
/-- Remove undoes Add. -/
theorem add_rem (l x : List Au) (a : Au) (hl : rightA l = 0) (h : addA l a = (x, 0)) : rightA x = 0 ∧ remA x a.id = (l, 0) := by
  unfold addA at h
  split at h
  · cases h
  rename_i hg
  obtain ⟨rfl, hx⟩ := check_out _ _ h
  have hno : ∀ b ∈ l, b.id ≠ a.id := by
    refine get_none l a.id ?_
    cases e : getA l a.id with
    | none => rfl
    | some b => rw [e] at hg; exact absurd rfl hg
  refine ⟨hx, ?_⟩
  have ha : a ∈ insA l a := (mem_insA a a l).2 (.inl rfl)
  obtain ⟨b, hb⟩ := get_mem (insA l a) a.id ⟨a, ha, rfl⟩
  obtain ⟨_, _, _, x4, x5⟩ := right_out _ hx
  obtain ⟨_, _, _, l4, _⟩ := right_out _ hl
  unfold remA
  rw [hb]
  have hany : ((insA l a).any fun c => decide (a.id ∈ c.above)) = false := by
    rw [List.any_eq_false]
    intro c hc hm
    have hm : a.id ∈ c.above := of_decide_eq_true hm
    rcases (mem_insA a c l).1 hc with rfl | hc
    · exact x5 c ha (above_closed (insA l c) c.id c ha (.inl rfl) _ hm)
    · have h4 := l4 c hc
      unfold abvE at h4
      split at h4
      · cases h4
      split at h4
      · cases h4
      split at h4
      · cases h4
      rename_i h5
      have h5 : (c.above.all fun n => match getA l n with | some x => decide (x.kind = c.kind) | none => false) = true := by
        cases e : (c.above.all fun n => match getA l n with | some x => decide (x.kind = c.kind) | none => false)
        · exact absurd e h5
        · rfl
      have h6 := List.all_eq_true.1 h5 _ hm
      cases e : getA l a.id with
      | none => rw [e] at h6; cases h6
      | some d =>
        obtain ⟨d1, d2⟩ := get_some l a.id d e
        exact hno d d1 d2
  show (if ((insA l a).any fun c => decide (a.id ∈ c.above)) = true then (([] : List Au), (10 : Int)) else (woutA (insA l a) a.id, 0)) = (l, 0)
  rw [hany, if_neg (by decide), wout_ins a l hno]
end

section
theorem mem_with (l : List Au) (a b : Au) (hb : b ∈ l) (e : b.id = a.id) : a ∈ withA l a :=
  List.mem_map.2 ⟨b, hb, by rw [if_pos e]⟩
theorem ren_keeps (l x : List Au) (id : Int) (h : List UInt8) (a : Au) (hg : getA l id = some a) (hr : renA l id h = (x, 0)) :
    rightA x = 0 ∧ (∃ p, findA x a.kind a.heading = (id, p, true)) ∧ ∃ c, getA x id = some c ∧ c.heading = h := by
  obtain ⟨g1, g2⟩ := get_some l id a hg
  unfold renA at hr
  rw [hg] at hr
  obtain ⟨rfl, hx⟩ := check_out _ _ hr
  refine ⟨hx, ?_, ?_⟩
  · have hm := mem_with l { a with heading := h, see := (a.see.filter fun s => decide (normX s ≠ normX h)) ++ (if normX a.heading ≠ normX h then [a.heading] else []) } a g1 rfl
    by_cases e : normX a.heading = normX h
    · obtain ⟨p, hp⟩ := find_lead _ hx _ hm a.heading h (by simp [hdsX]) e
      exact ⟨p, by rw [← g2]; exact hp⟩
    · obtain ⟨p, hp⟩ := find_lead _ hx _ hm a.heading a.heading (by simp [hdsX, e]) rfl
      exact ⟨p, by rw [← g2]; exact hp⟩
  · have hm := mem_with l { a with heading := h, see := (a.see.filter fun s => decide (normX s ≠ normX h)) ++ (if normX a.heading ≠ normX h then [a.heading] else []) } a g1 rfl
    obtain ⟨_, r2, _, _, _⟩ := right_out _ hx
    obtain ⟨o1, _, _⟩ := ones_out _ none r2
    have := get_one _ o1 _ hm
    exact ⟨_, by rw [← g2]; exact this, rfl⟩
theorem set_keeps (l x : List Au) (id : Int) (above : List Int) (hr : setA l id above = (x, 0)) : rightA x = 0 := by
  unfold setA at hr
  cases e : getA l id with
  | none => rw [e] at hr; cases hr
  | some a =>
    rw [e] at hr
    exact (check_out _ _ hr).1 ▸ (check_out _ _ hr).2
theorem wout_len (g : Int) : ∀ l : List Au, (l.Pairwise fun x y => x.id < y.id) → (∃ b ∈ l, b.id = g) → (woutA l g).length + 1 = l.length
  | [], _, h => by obtain ⟨b, hb, _⟩ := h; cases hb
  | a :: r, hp, h => by
    rw [List.pairwise_cons] at hp
    unfold woutA
    rw [List.filter_cons]
    by_cases e : a.id = g
    · rw [if_neg (by simp [e])]
      have := wout_none r g (fun b hb => by have := hp.1 b hb; omega)
      unfold woutA at this
      rw [this]
      rfl
    · rw [if_pos (decide_eq_true e)]
      obtain ⟨b, hb, eb⟩ := h
      have hb : b ∈ r := by
        rcases List.mem_cons.1 hb with rfl | hb
        · exact absurd eb e
        · exact hb
      have ih := wout_len g r hp.2 ⟨b, hb, eb⟩
      unfold woutA at ih
      rw [List.length_cons, List.length_cons, ih]
theorem wout_with (g : Int) (a : Au) : ∀ l : List Au, (woutA (withA l a) g).length = (woutA l g).length
  | [] => rfl
  | b :: r => by
    have ih := wout_with g a r
    unfold woutA withA at ih ⊢
    rw [List.map_cons, List.filter_cons, List.filter_cons]
    have hid : (if b.id = a.id then a else b).id = b.id := by
      split
      · rename_i e; exact e.symm
      · rfl
    rw [hid]
    split
    · rw [List.length_cons, List.length_cons, ih]
    · exact ih
theorem turn_hds (into gone : Int) (a : Au) : hdsX (turnA into gone a) = hdsX a := rfl
theorem merge_keeps (l x : List Au) (into gone : Int) (a b : Au) (hl : rightA l = 0) (ha : getA l into = some a) (hb : getA l gone = some b) (hr : mergeA l into gone = (x, 0)) :
    rightA x = 0 ∧ x.length + 1 = l.length ∧ (∀ h ∈ hdsX a, ∃ p, findA x a.kind h = (into, p, true)) ∧ ∀ h ∈ hdsX b, ∃ p, findA x b.kind h = (into, p, true) := by
  obtain ⟨a1, a2⟩ := get_some l into a ha
  obtain ⟨b1, b2⟩ := get_some l gone b hb
  unfold mergeA at hr
  rw [ha, hb] at hr
  change (if into = gone ∨ a.kind ≠ b.kind then (([] : List Au), (1 : Int)) else _) = _ at hr
  split at hr
  · cases hr
  rename_i hn
  have hne : into ≠ gone := fun e => hn (.inl e)
  have hk : a.kind = b.kind := Decidable.of_not_not (fun e => hn (.inr e))
  obtain ⟨rfl, hx⟩ := check_out _ _ hr
  obtain ⟨_, r2, _, _, _⟩ := right_out _ hl
  obtain ⟨o1, _, _⟩ := ones_out _ none r2
  have hm : turnA into gone { a with see := a.see ++ hdsX b } ∈ (woutA (withA l { a with see := a.see ++ hdsX b }) gone).map (turnA into gone) := by
    refine List.mem_map.2 ⟨_, ?_, rfl⟩
    unfold woutA
    refine List.mem_filter.2 ⟨mem_with l _ a a1 rfl, decide_eq_true ?_⟩
    show a.id ≠ gone
    rw [a2]
    exact hne
  have lead : ∀ h, h ∈ hdsX a ∨ h ∈ hdsX b → ∃ p, findA ((woutA (withA l { a with see := a.see ++ hdsX b }) gone).map (turnA into gone)) a.kind h = (into, p, true) := by
    intro h hh
    obtain ⟨p, hp⟩ := find_lead _ hx _ hm h h (by
      rw [turn_hds]
      show h ∈ a.heading :: (a.see ++ hdsX b)
      rcases hh with hh | hh
      · unfold hdsX at hh
        rcases List.mem_cons.1 hh with rfl | hh
        · simp
        · simp [hh]
      · simp [hh]) rfl
    refine ⟨p, ?_⟩
    rw [← a2]
    rw [← a2] at hp
    exact hp
  refine ⟨hx, ?_, fun h hh => lead h (.inl hh), fun h hh => ?_⟩
  · rw [List.length_map, wout_with]
    exact wout_len gone l o1 ⟨b, b1, b2⟩
  · rw [← hk]
    exact lead h (.inr hh)
end

end Go.Proofs.YtmcolapcmjdoeaaGreatDoor
