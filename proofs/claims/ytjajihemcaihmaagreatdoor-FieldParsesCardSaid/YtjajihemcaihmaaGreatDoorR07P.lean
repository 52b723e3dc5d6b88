/- libraryref07: Parse. -/
import Derived.Test.YtjajihemcaihmaaGreatDoorR07O
import Derived.Test.YtjajihemcaihmaaGreatDoorR07P0
namespace Go.Proofs.YtjajihemcaihmaaGreatDoor
open Go.RowKit Go.PlainAid

theorem refread_any (s : List UInt8) (hs : s.length ≤ 1000000) (w : World) :
    Calls Tryz.prog 16 #[.string (S s)] w fun e w' => ReadEnd w s e w' := by
  rcases Nat.lt_or_ge s.length 8 with h | h
  · exact refread_short s h w
  · exact refread_long s hs h w
theorem val_le : ∀ l : List UInt8, (valL l).1.length ≤ l.length
  | [] => Nat.le_refl _
  | [c] => by rw [valL]; split <;> simp
  | c :: d :: t => by
    have h1 := val_le (d :: t)
    have h2 := val_le t
    rw [valL]
    split
    · simp at h1 ⊢; omega
    · split
      · simp; omega
      · simp
theorem subs_le : ∀ (k : Nat) (l : List UInt8) (L : List Sub), subsF k l = some L → ∀ i, i < L.length → (L.getD i sub0).2.length ≤ l.length
  | k, [], L, h, i, hi => by
    have : L = [] := by cases k <;> simpa [subsF] using h.symm
    rw [this] at hi
    cases hi
  | 0, _ :: _, L, h, _, _ => by cases h
  | k + 1, [_], L, h, _, _ => by cases h
  | k + 1, c :: d :: t, L, h, i, hi => by
    rw [subsF] at h
    split at h
    · cases h
    · cases hM : subsF k (valL t).2 with
      | none => rw [hM] at h; cases h
      | some M =>
        rw [hM] at h
        obtain rfl := (Option.some.inj h).symm
        have h1 := val_le t
        have h2 := valL_le t
        cases i with
        | zero =>
          show (valL t).1.length ≤ _
          simp; omega
        | succ i =>
          have := subs_le k (valL t).2 M hM i (by simpa using hi)
          show (M.getD i sub0).2.length ≤ _
          simp only [List.length_cons]
          omega
theorem read_le (s : List UInt8) (f : Fld) (h : readL s = some f) : ∀ i, i < f.subs.length → (f.subs.getD i sub0).2.length ≤ s.length := by
  unfold readL at h
  split at h
  · cases h
  split at h
  · cases h
  split at h
  · cases h
  cases hM : subsF s.length ((authR (s.drop 3)).2.drop 4) with
  | none => rw [hM] at h; cases h
  | some M =>
    rw [hM] at h
    obtain rfl := (Option.some.inj h).symm
    intro i hi
    have h1 := subs_le _ _ _ hM i hi
    have hA : ∀ (l : List UInt8) (a : Nat), (authL l a).2.length ≤ l.length := by
      intro l
      induction l with
      | nil => intro a; simp [authL]
      | cons c t ih =>
        intro a
        rw [authL]
        split
        · have := ih (a * 10 + (c.toNat - 48)); simp; omega
        · simp
    have h2 : (authR (s.drop 3)).2.length ≤ s.length := by
      unfold authR
      split
      · have := hA ((s.drop 3).drop 1) 0
        simp at this ⊢
        omega
      · simp
    rw [List.length_drop] at h1
    show (M.getD i sub0).2.length ≤ _
    omega
set_option maxHeartbeats 16000000 in
set_option maxRecDepth 100000 in
theorem refParse_any (s : List UInt8) (hs : s.length ≤ 1000000) (w : World) (f : Fld) (er : Int) (h : parseR s = (f, er)) :
    Calls Tryz.prog 6 #[.string (S s)] w fun e w' => ∃ v, e = .returned (.tuple #[FV f v, .int .i64 er]) ∧ QL v f.subs w' ∧ Below w.heap.size w w' := by
  have cR := Lib.hid (fun W => refread_any s hs W)
  have hR0 : (w.alloc (.cells #[.string ⟨#[]⟩, .string ⟨#[]⟩, .slice none 0 0, .int .i64 0] 25)).heap[w.heap.size]? = some (.cells #[.string ⟨#[]⟩, .string ⟨#[]⟩, .slice none 0 0, .int .i64 0] 25 (0, 0)) := heap_alloc_new w _
  have b0 : Below w.heap.size w (w.alloc (.cells #[.string ⟨#[]⟩, .string ⟨#[]⟩, .slice none 0 0, .int .i64 0] 25)) := (Below.refl w.heap.size w).alloc (Nat.le_refl _) _
  have hlt0 : w.heap.size < (w.alloc (.cells #[.string ⟨#[]⟩, .string ⟨#[]⟩, .slice none 0 0, .int .i64 0] 25)).heap.size := by simp
  obtain ⟨Q, hQ⟩ : ∃ Q, (fun (e : Ending) (w' : World) => ∃ v, e = .returned (.tuple #[FV f v, .int .i64 er]) ∧ QL v f.subs w' ∧ Below w.heap.size w w') = Q := ⟨_, rfl⟩
  rw [hQ]
  have HQ : RowKit.Hid (∀ e w', (∃ v, e = .returned (.tuple #[FV f v, .int .i64 er]) ∧ QL v f.subs w' ∧ Below w.heap.size w w') → Q e w') := by rw [← hQ]; exact fun _ _ h => h
  clear hQ
  have H := Lib.hid h
  clear h
  obtain ⟨st, hst⟩ : ∃ st, S s = st := ⟨_, rfl⟩
  rw [hst] at cR ⊢
  have HST := Lib.hid hst
  clear hst
  go_enter Tryz.func6, Tryz.ntmps6
  go_wp2_with fail
  refine (cR.out _).mono ?_
  rintro e w1 ⟨tg, ix, ao, n, cp, au, b, rfl, hb, hnone, hsome⟩
  have hR1 := (hb.block w.heap.size hlt0).trans hR0
  have hb1 := b0.trans (hb.mono (Nat.le_of_lt hlt0))
  have hlt1 : w.heap.size < w1.heap.size := Nat.lt_of_lt_of_le hlt0 hb.size
  have HRB := Lib.hid hR1
  have HB1 := Lib.hid hb1
  have hR2 : (w1.alloc (.cells #[.string tg, .string ix, .slice ao n cp, .int .i64 au] 25)).heap[w.heap.size]? = some (.cells #[.string ⟨#[]⟩, .string ⟨#[]⟩, .slice none 0 0, .int .i64 0] 25 (0, 0)) := (Below.heap_alloc _ _ _ hlt1).trans hR1
  have hF2 : (w1.alloc (.cells #[.string tg, .string ix, .slice ao n cp, .int .i64 au] 25)).heap[w1.heap.size]? = some (.cells #[.string tg, .string ix, .slice ao n cp, .int .i64 au] 25 (0, 0)) := heap_alloc_new w1 _
  have hb2 := hb1.alloc (Nat.le_of_lt hlt1) (.cells #[.string tg, .string ix, .slice ao n cp, .int .i64 au] 25)
  have HB2 := Lib.hid hb2
  have HR2 := Lib.hid hR2
  have HF2 := Lib.hid hF2
  clear hR1 hb1 HRB HB1 hR0 b0 hb hb2
  cases hr : readL s with
  | none =>
    obtain rfl := hnone hr
    have hP : parseR s = (fld0, 3) := by unfold parseR parseO; rw [hr]
    have hH := H.out
    rw [hP] at hH
    obtain ⟨rfl, rfl⟩ := Prod.mk.inj hH
    obtain ⟨w2, hw2⟩ : ∃ w2, w1.alloc (.cells #[.string tg, .string ix, .slice ao n cp, .int .i64 au] 25) = w2 := ⟨_, rfl⟩
    rw [hw2] at HR2 HB2
    have HW2 := Lib.hid hw2
    clear hnone hsome hr hP hH hR2 hF2 hw2
    obtain ⟨⟨r0, r1, r2, r3⟩, g0, g1, g2, g3⟩ := field_cells HR2.out
    have hfin := Lib.hid (field_set (x0 := .string ⟨#[]⟩) (x1 := .string ⟨#[]⟩) (x2 := .slice Option.none 0 0) (x3 := .int .i64 0) HR2.out)
    have Fin := Lib.hid ((((HB2.out.setCell (p := ⟨w.heap.size, 0, Option.none⟩) (Nat.le_refl _) (.string ⟨#[]⟩)).setCell (p := ⟨w.heap.size, 1, Option.none⟩) (Nat.le_refl _) (.string ⟨#[]⟩)).setCell (p := ⟨w.heap.size, 2, Option.none⟩) (Nat.le_refl _) (.slice Option.none 0 0)).setCell (p := ⟨w.heap.size, 3, Option.none⟩) (Nat.le_refl _) (.int .i64 0))
    go_upto_if 14 with fail
    rw [HW2.out]
    go_wp2
    (try simp only [Exit.inBlock, Exit.then])
    refine bodyPost_ret (results_row_tmp rfl _ _ w.heap.size _ _ _ _ rfl hfin.out Tryz.underlying25 rfl (by kernel_rfl)) rfl ?_
    exact HQ.out _ _ ⟨_, rfl, ⟨Option.none, 0, rfl, Nat.le_refl _, Nat.zero_le _, fun _ => rfl, fun i hi => by cases hi⟩, Fin.out⟩
  | some f0 =>
    obtain ⟨rfl, rfl, rfl, rfl, hown⟩ := hsome f0 hr
    have hz := read_le s f0 hr
    have hown2 := hown.alloc (.cells #[.string (S f0.tag), .string (S f0.ind), .slice ao n cp, .int .i64 f0.auth] 25)
    obtain ⟨pr, hpr⟩ : ∃ pr, printR f0 = pr := ⟨_, rfl⟩
    obtain ⟨r, pe⟩ := pr
    have cP := Lib.hid (refPrint_any f0 _ _ (QL.of_row hown2) (fun i hi => by have := hz i hi; omega) r pe hpr)
    unfold FV at cP
    have hlt2 : w1.heap.size < (w1.alloc (.cells #[.string (S f0.tag), .string (S f0.ind), .slice ao n cp, .int .i64 f0.auth] 25)).heap.size := by simp
    have HOwn2 := Lib.hid hown2
    have HZ := Lib.hid hz
    obtain ⟨w2, hw2⟩ : ∃ w2, w1.alloc (.cells #[.string (S f0.tag), .string (S f0.ind), .slice ao n cp, .int .i64 f0.auth] 25) = w2 := ⟨_, rfl⟩
    rw [hw2] at cP HOwn2 HR2 HF2 HB2 hlt2
    have HW2 := Lib.hid hw2
    clear hz hown hown2 hR2 hF2 hnone hsome hw2
    go_wp2_with fail
    rw [HW2.out]
    refine (cP.out).mono ?_
    rintro e w3 ⟨rfl, b3⟩
    have hR3 := (b3.block w.heap.size (by omega)).trans HR2.out
    have hF3 := (b3.block w1.heap.size hlt2).trans HF2.out
    have HOwn3 := Lib.hid (own_after HOwn2.out b3)
    have HB3 := Lib.hid (HB2.out.trans (b3.mono (by omega)))
    clear b3
    have hq := S_eq r s
    rw [HST.out] at hq
    by_cases hok : rightI f0 = 0 ∧ lineL f0 = s
    · have hP : parseR s = (f0, 0) := by
        unfold parseR parseO
        rw [hr]
        show (match (if rightI f0 = 0 ∧ lineL f0 = s then some f0 else none) with | some f => (f, (0 : Int)) | none => (fld0, 3)) = _
        rw [if_pos hok]
      have hH := H.out
      rw [hP] at hH
      obtain ⟨rfl, rfl⟩ := Prod.mk.inj hH
      unfold printR at hpr
      rw [if_pos hok.1] at hpr
      obtain ⟨hr1, rfl⟩ := Prod.mk.inj hpr
      rw [← hr1, hok.2, decide_eq_true rfl, HST.out] at hq
      rw [← hr1, hok.2, HST.out]
      obtain ⟨⟨q0, q1, q2, q3⟩, p0, p1, p2, p3⟩ := field_cells hF3
      obtain ⟨⟨r0, r1, r2, r3⟩, g0, g1, g2, g3⟩ := field_cells hR3
      have hfin := Lib.hid (field_set (x0 := .string (S f0.tag)) (x1 := .string (S f0.ind)) (x2 := .slice ao n cp) (x3 := .int .i64 f0.auth) hR3)
      have Fin := Lib.hid ((((HB3.out.setCell (p := ⟨w.heap.size, 0, none⟩) (Nat.le_refl _) (.string (S f0.tag))).setCell (p := ⟨w.heap.size, 1, none⟩) (Nat.le_refl _) (.string (S f0.ind))).setCell (p := ⟨w.heap.size, 2, none⟩) (Nat.le_refl _) (.slice ao n cp)).setCell (p := ⟨w.heap.size, 3, none⟩) (Nat.le_refl _) (.int .i64 f0.auth))
      have hB' : ∀ k, k < 4 → (⟨w.heap.size, k, none⟩ : Addr).block < (w.alloc (.cells #[.string ⟨#[]⟩, .string ⟨#[]⟩, .slice none 0 0, .int .i64 0] 25)).heap.size + 2 := fun k _ => by show w.heap.size < _; omega
      have HQL := Lib.hid (QL.of_row (own_setCell (own_setCell (own_setCell (own_setCell HOwn3.out (hB' 0 (by decide)) (.string (S f0.tag))) (hB' 1 (by decide)) (.string (S f0.ind))) (hB' 2 (by decide)) (.slice ao n cp)) (hB' 3 (by decide)) (.int .i64 f0.auth)))
      clear hB' hr hok hP hH hpr hr1 hR3 hF3
      go_wp2
      (try simp only [Exit.inBlock, Exit.then])
      refine bodyPost_ret (results_row_tmp rfl _ _ w.heap.size _ _ _ _ rfl hfin.out Tryz.underlying25 rfl (by kernel_rfl)) rfl ?_
      exact HQ.out _ _ ⟨_, rfl, HQL.out, Fin.out⟩
    · have hP : parseR s = (fld0, 3) := by
        unfold parseR parseO
        rw [hr]
        show (match (if rightI f0 = 0 ∧ lineL f0 = s then some f0 else none) with | some f => (f, (0 : Int)) | none => (fld0, 3)) = _
        rw [if_neg hok]
      have hH := H.out
      rw [hP] at hH
      obtain ⟨rfl, rfl⟩ := Prod.mk.inj hH
      have hcase : pe ≠ 0 ∨ (pe = 0 ∧ r ≠ s) := by
        unfold printR at hpr
        by_cases h0 : rightI f0 = 0
        · rw [if_pos h0] at hpr
          obtain ⟨hr1, rfl⟩ := Prod.mk.inj hpr
          exact .inr ⟨rfl, fun e => hok ⟨h0, hr1.trans e⟩⟩
        · rw [if_neg h0] at hpr
          obtain ⟨_, rfl⟩ := Prod.mk.inj hpr
          exact .inl h0
      obtain ⟨⟨r0, r1, r2, r3⟩, g0, g1, g2, g3⟩ := field_cells hR3
      have hfin := Lib.hid (field_set (x0 := .string ⟨#[]⟩) (x1 := .string ⟨#[]⟩) (x2 := .slice none 0 0) (x3 := .int .i64 0) hR3)
      have Fin := Lib.hid ((((HB3.out.setCell (p := ⟨w.heap.size, 0, none⟩) (Nat.le_refl _) (.string ⟨#[]⟩)).setCell (p := ⟨w.heap.size, 1, none⟩) (Nat.le_refl _) (.string ⟨#[]⟩)).setCell (p := ⟨w.heap.size, 2, none⟩) (Nat.le_refl _) (.slice none 0 0)).setCell (p := ⟨w.heap.size, 3, none⟩) (Nat.le_refl _) (.int .i64 0))
      clear hr hok hP hH hpr hR3 hF3
      rcases hcase with h0 | ⟨rfl, hne⟩
      · have t0 : (pe != 0) = true := by simpa using h0
        clear hq
        go_wp2
        (try simp only [Exit.inBlock, Exit.then])
        refine bodyPost_ret (results_row_tmp rfl _ _ w.heap.size _ _ _ _ rfl hfin.out Tryz.underlying25 rfl (by kernel_rfl)) rfl ?_
        exact HQ.out _ _ ⟨_, rfl, ⟨Option.none, 0, rfl, Nat.le_refl _, Nat.zero_le _, fun _ => rfl, fun i hi => by cases hi⟩, Fin.out⟩
      · rw [decide_eq_false hne] at hq
        clear hne
        generalize S r = sr at *
        go_wp2
        (try simp only [Exit.inBlock, Exit.then])
        refine bodyPost_ret (results_row_tmp rfl _ _ w.heap.size _ _ _ _ rfl hfin.out Tryz.underlying25 rfl (by kernel_rfl)) rfl ?_
        exact HQ.out _ _ ⟨_, rfl, ⟨Option.none, 0, rfl, Nat.le_refl _, Nat.zero_le _, fun _ => rfl, fun i hi => by cases hi⟩, Fin.out⟩
end Go.Proofs.YtjajihemcaihmaaGreatDoor
