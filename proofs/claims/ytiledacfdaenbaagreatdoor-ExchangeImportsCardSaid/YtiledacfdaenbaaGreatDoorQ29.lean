/- Merged: RJ10. -/
import Derived.Test.YtiledacfdaenbaaGreatDoorQ28
import Derived.Test.YtiledacfdaenbaaGreatDoorQ03
namespace Go.Proofs.YtiledacfdaenbaaGreatDoor

section
open Go.RowKit Go.PlainAid
theorem subG_le : ∀ (n : Nat) (l : List UInt8) (M : List Sub), l.length ≤ n → subG l = some M → ∀ s ∈ M, s.2.length ≤ l.length
  | n, l, M, hn, h, s, hs => by
    by_cases h0 : l.length = 0 ∨ l.getD 0 0 ≠ 31
    · rw [subG_end l h0] at h
      obtain rfl := Option.some.inj h
      cases hs
    · by_cases h1 : l.length ≤ stopF (l.drop 2) + 2
      · rw [subG_bad l h0 h1] at h
        cases h
      · rw [subG_go l h0 h1] at h
        cases n with
        | zero => exact absurd (.inl (by omega)) h0
        | succ m =>
          cases e : subG (l.drop (stopF (l.drop 2) + 2)) with
          | none => rw [e] at h; cases h
          | some M2 =>
            rw [e] at h
            obtain rfl := Option.some.inj h
            rcases List.mem_cons.1 hs with rfl | hs
            · show ((l.drop 2).take _).length ≤ _
              rw [List.length_take, List.length_drop]
              omega
            · have := subG_le m _ M2 (by rw [List.length_drop]; omega) e s hs
              rw [List.length_drop] at this
              omega
theorem fldG_le (tag b : List UInt8) (f : Fld) (h : fldG tag b = some f) : ∀ s ∈ f.subs, s.2.length ≤ b.length := by
  unfold fldG at h
  cases e : subG (b.drop 6) with
  | none => rw [e] at h; cases h
  | some M =>
    rw [e] at h
    obtain rfl := Option.some.inj h
    intro s hs
    have := subG_le _ (b.drop 6) M (Nat.le_refl _) e s hs
    rw [List.length_drop] at this
    omega
theorem dirG_le (s : List UInt8) (base : Nat) : ∀ (n i : Nat) (F : List Fld), base - i ≤ n → dirG s base i = some F → ∀ f ∈ F, ∀ x ∈ f.subs, x.2.length ≤ s.length
  | n, i, F, hn, h, f, hf, x, hx => by
    by_cases h0 : base ≤ i + 12
    · rw [dirG, dif_pos h0] at h
      obtain rfl := Option.some.inj h
      cases hf
    · by_cases hb : numF s (i + 3) 4 < 7 ∨ numF s (i + 7) 5 < 0 ∨ (s.length : Int) < (base : Int) + numF s (i + 7) 5 + numF s (i + 3) 4
      · rw [dirG_none s base i h0 hb] at h
        cases h
      · cases e : fldG ((s.drop i).take 3) ((s.drop (base + (numF s (i + 7) 5).toNat)).take (numF s (i + 3) 4).toNat) with
        | none =>
          rw [dirG_badf s base i h0 hb e] at h
          cases h
        | some g =>
          rw [dirG_go s base i h0 hb g e] at h
          cases n with
          | zero => omega
          | succ m =>
            cases e2 : dirG s base (i + 12) with
            | none => rw [e2] at h; cases h
            | some F2 =>
              rw [e2] at h
              obtain rfl := Option.some.inj h
              rcases List.mem_cons.1 hf with rfl | hf
              · have := fldG_le _ _ _ e x hx
                rw [List.length_take, List.length_drop] at this
                omega
              · exact dirG_le s base m (i + 12) F2 (by omega) e2 f hf x hx
theorem recG_le (l : List UInt8) (r : Rec) (h : recG l = some r) : r.lang.length ≤ 3 ∧ ∀ i, i < r.fields.length → ∀ j, j < (r.fields.getD i fd0).subs.length → ((r.fields.getD i fd0).subs.getD j sub0).2.length ≤ l.length := by
  unfold recG at h
  split at h
  · cases h
  · split at h
    · cases h
    · cases e : dirG l (numF l 11 5).toNat 24 with
      | none => rw [e] at h; cases h
      | some F =>
        rw [e] at h
        obtain rfl := Option.some.inj h
        refine ⟨by show ((l.drop 8).take 3).length ≤ 3; rw [List.length_take]; omega, fun i hi j hj => ?_⟩
        have hi : i < F.length := hi
        have hm : F.getD i fd0 ∈ F := by
          rw [List.getD_eq_getElem?_getD, List.getElem?_eq_getElem hi]
          exact List.getElem_mem _
        have hj : j < (F.getD i fd0).subs.length := hj
        have hs : (F.getD i fd0).subs.getD j sub0 ∈ (F.getD i fd0).subs := by
          rw [List.getD_eq_getElem?_getD (l := (F.getD i fd0).subs), List.getElem?_eq_getElem hj]
          exact List.getElem_mem _
        exact dirG_le l _ _ 24 F (Nat.le_refl _) e _ hm _ hs
theorem refRead2 (l : List UInt8) (hz : l.length ≤ 100000) (w : World) :
    Calls Tryz.prog 21 #[.string (S l)] w fun e w' => ∃ r u ok, e = .returned (.tuple #[RV r u, .bool ok]) ∧ Below w.heap.size w w' ∧ New w.heap.size (FL u r.fields) w' ∧ ((recG l = none ∧ ok = false) ∨ (recG l = some r ∧ ok = true)) :=
  (refRead_any l hz w).mono fun e w' h => by
    obtain ⟨r, u, ok, h1, h2, h3, h4⟩ := h
    exact ⟨r, u, ok, h1, h2, h3, h4.symm⟩
theorem refEncode2 (r : Rec) (u : Value) (w : World) (hu : FL u r.fields w) (_hlz : r.lang.length ≤ maxLen) (hz : ∀ i, i < r.fields.length → ∀ j, j < (r.fields.getD i fd0).subs.length → ((r.fields.getD i fd0).subs.getD j sub0).2.length ≤ 1000000) :
    Calls Tryz.prog 22 #[RV r u] w fun e w' => e = .returned (.tuple #[.string (S (encX r).1), .int .i64 (encX r).2]) ∧ Below w.heap.size w w' := refEncode_any r u w hu hz

set_option maxHeartbeats 16000000 in
set_option maxRecDepth 100000 in
theorem refDecode_any (l : List UInt8) (w : World) (hE : Env w) (hz : l.length ≤ 100000) :
    Calls Tryz.prog 15 #[.string (S l)] w fun e w' => ∃ u, e = .returned (.tuple #[RV (decG l).1 u, .int .i64 (decG l).2]) ∧ New w.heap.size (FL u (decG l).1.fields) w' ∧ Below w.heap.size w w' := by
  obtain ⟨q, er, hd⟩ : ∃ q er, decG l = (q, er) := ⟨_, _, rfl⟩
  rw [hd]
  obtain ⟨Q, hQ⟩ : ∃ Q, (fun (e : Ending) (w' : World) => ∃ u, e = .returned (.tuple #[RV q u, .int .i64 er]) ∧ New w.heap.size (FL u q.fields) w' ∧ Below w.heap.size w w') = Q := ⟨_, rfl⟩
  show Calls _ _ _ _ (fun (e : Ending) (w' : World) => ∃ u, e = .returned (.tuple #[RV q u, .int .i64 er]) ∧ New w.heap.size (FL u q.fields) w' ∧ Below w.heap.size w w')
  rw [hQ]
  have HQ : RowKit.Hid (∀ e w', (∃ u, e = .returned (.tuple #[RV q u, .int .i64 er]) ∧ New w.heap.size (FL u q.fields) w' ∧ Below w.heap.size w w') → Q e w') := by rw [← hQ]; exact fun _ _ h => h
  clear hQ
  have hR0 : (w.alloc (.cells #[.int .i64 0, .int .i64 0, .int .i64 0, .string ⟨#[]⟩, .slice none 0 0] 40)).heap[w.heap.size]? = some (.cells #[.int .i64 0, .int .i64 0, .int .i64 0, .string ⟨#[]⟩, .slice none 0 0] 40 (0, 0)) := heap_alloc_new w _
  have b0 : Below w.heap.size w (w.alloc (.cells #[.int .i64 0, .int .i64 0, .int .i64 0, .string ⟨#[]⟩, .slice none 0 0] 40)) := (Below.refl w.heap.size w).alloc (Nat.le_refl _) _
  obtain ⟨W0, hW0⟩ : ∃ W0, w.alloc (.cells #[.int .i64 0, .int .i64 0, .int .i64 0, .string ⟨#[]⟩, .slice none 0 0] 40) = W0 := ⟨_, rfl⟩
  rw [hW0] at hR0 b0
  have hlt0 : w.heap.size < W0.heap.size := by rw [← hW0]; simp
  have HW0 := Lib.hid hW0
  have B0 := Lib.hid b0
  have HR0 := Lib.hid hR0
  have HEW : RowKit.Hid (∀ W, Below W0.heap.size W0 W → Env W) := fun W hW => hE.after (b0.trans (hW.mono b0.size))
  have hsz := S_size l
  have hne : ∀ x, S_eq x l = S_eq x l := fun _ => rfl
  clear hW0 b0 hE hne
  have HD : RowKit.Hid ((match recG l with | none => (rec0, 3) | some r => if encX r = (l, 0) then (r, 0) else (rec0, 3)) = (q, er)) := by
    unfold RowKit.Hid
    rw [← hd]
    rfl
  have c1 := Lib.hid (refRead2 l hz W0)
  have hln := hz
  clear hd hR0 
  go_enter Tryz.func15, Tryz.ntmps15
  go_wp2_with fail
  rw [HW0.out]
  refine c1.out.mono ?_
  rintro e w1 ⟨r, u, ok, rfl, b1, hnew, hcase⟩
  obtain ⟨ua, uc, hu, -, -⟩ := hnew.here.length
  subst hu
  have hb2 := b1.alloc (w := w1) b1.size (.cells #[.int .i64 r.id, .int .i64 r.ver, .int .i64 r.kind, .string (S r.lang), .slice ua r.fields.length uc] 40)
  have hR2 : (w1.alloc (.cells #[.int .i64 r.id, .int .i64 r.ver, .int .i64 r.kind, .string (S r.lang), .slice ua r.fields.length uc] 40)).heap[w.heap.size]? = some (.cells #[.int .i64 0, .int .i64 0, .int .i64 0, .string ⟨#[]⟩, .slice none 0 0] 40 (0, 0)) := (hb2.block w.heap.size hlt0).trans HR0.out
  have hX2 : (w1.alloc (.cells #[.int .i64 r.id, .int .i64 r.ver, .int .i64 r.kind, .string (S r.lang), .slice ua r.fields.length uc] 40)).heap[w1.heap.size]? = some (.cells #[.int .i64 r.id, .int .i64 r.ver, .int .i64 r.kind, .string (S r.lang), .slice ua r.fields.length uc] 40 (0, 0)) := heap_alloc_new w1 _
  have hn2 := hnew.after ((Below.refl w1.heap.size w1).alloc (Nat.le_refl _) (.cells #[.int .i64 r.id, .int .i64 r.ver, .int .i64 r.kind, .string (S r.lang), .slice ua r.fields.length uc] 40))
  have hlt1 : w.heap.size < w1.heap.size := Nat.lt_of_lt_of_le hlt0 b1.size
  have hlt2 : w1.heap.size < (w1.alloc (.cells #[.int .i64 r.id, .int .i64 r.ver, .int .i64 r.kind, .string (S r.lang), .slice ua r.fields.length uc] 40)).heap.size := by simp
  obtain ⟨W2, hW2⟩ : ∃ W2, w1.alloc (.cells #[.int .i64 r.id, .int .i64 r.ver, .int .i64 r.kind, .string (S r.lang), .slice ua r.fields.length uc] 40) = W2 := ⟨_, rfl⟩
  rw [hW2] at hb2 hR2 hX2 hn2 hlt2
  have HW2 := Lib.hid hW2
  have HX2 := Lib.hid hX2
  have HR2 := Lib.hid hR2
  have HN2 := Lib.hid hn2
  have B2 := Lib.hid (B0.out.trans (hb2.mono B0.out.size))
  have HE2 := Lib.hid (HEW.out W2 hb2)
  clear hb2 hX2 hn2 hW2 hnew b1 hR2 c1
  unfold RV
  rcases hcase with ⟨hrec, rfl⟩ | ⟨hrec, rfl⟩
  · have hH := HD.out
    rw [hrec] at hH
    obtain ⟨rfl, rfl⟩ := Prod.mk.inj hH
    obtain ⟨⟨r0, r1, r2, r3, r4⟩, g0, g1, g2, g3, g4⟩ := rcells HR2.out
    have hfin := Lib.hid (rec_set5 (x0 := .int .i64 0) (x1 := .int .i64 0) (x2 := .int .i64 0) (x3 := .string ⟨#[]⟩) (x4 := .slice Option.none 0 0) HR2.out)
    have hb := Lib.hid (rec_below (x0 := .int .i64 0) (x1 := .int .i64 0) (x2 := .int .i64 0) (x3 := .string ⟨#[]⟩) (x4 := .slice Option.none 0 0) B2.out)
    unfold setR5 at hfin hb
    clear hH hrec HD
    go_upto_if 14 with fail
    rw [HW2.out]
    go_wp2
    (try simp only [Exit.inBlock, Exit.then])
    refine bodyPost_ret (results_row_tmp10 rfl _ _ w.heap.size _ _ _ _ rfl hfin.out Tryz.underlying40 rfl (by kernel_rfl)) rfl ?_
    exact HQ.out _ _ ⟨_, rfl, fl_none _ _, hb.out⟩
  have hle := recG_le l r hrec
  have cE := refEncode2 r (.slice ua r.fields.length uc) W2 HN2.out.here (by have := hle.1; unfold maxLen; omega) (fun i hi j hj => by have := hle.2 i hi j hj; omega)
  obtain ⟨es, ee, hee⟩ : ∃ es ee, encX r = (es, ee) := ⟨_, _, rfl⟩
  rw [hee] at cE
  unfold RV at cE
  have CE := Lib.hid cE
  have HH : RowKit.Hid ((if (es, ee) = (l, (0 : Int)) then (r, (0 : Int)) else (rec0, 3)) = (q, er)) := by
    have hH := HD.out
    rw [hrec] at hH
    simp only [hee] at hH
    exact hH
  obtain ⟨⟨x0, x1, x2, x3, x4⟩, -⟩ := rcells HX2.out
  clear cE hee hle HD hrec
  go_wp2_with fail
  rw [HW2.out]
  refine CE.out.mono ?_
  rintro e w3 ⟨rfl, b3⟩
  have hR3 := (b3.block w.heap.size (Nat.lt_trans hlt1 hlt2)).trans HR2.out
  have hX3 := (b3.block w1.heap.size hlt2).trans HX2.out
  have B3 := Lib.hid (B2.out.trans (b3.mono B2.out.size))
  have HN3 := Lib.hid (HN2.out.after b3)
  clear b3 CE x0 x1 x2 x3 x4
  obtain ⟨⟨r0, r1, r2, r3, r4⟩, g0, g1, g2, g3, g4⟩ := rcells hR3
  obtain ⟨⟨x0, x1, x2, x3, x4⟩, -⟩ := rcells hX3
  have hq := S_eq es l
  by_cases hok : es = l ∧ ee = 0
  · obtain ⟨rfl, rfl⟩ := hok
    have hH := HH.out
    rw [if_pos rfl] at hH
    obtain ⟨rfl, rfl⟩ := Prod.mk.inj hH
    rw [decide_eq_true rfl] at hq
    have hfin := Lib.hid (rec_set5 (x0 := .int .i64 r.id) (x1 := .int .i64 r.ver) (x2 := .int .i64 r.kind) (x3 := .string (S r.lang)) (x4 := .slice ua r.fields.length uc) hR3)
    have hb := Lib.hid (rec_below (x0 := .int .i64 r.id) (x1 := .int .i64 r.ver) (x2 := .int .i64 r.kind) (x3 := .string (S r.lang)) (x4 := .slice ua r.fields.length uc) B3.out)
    have hnn : New W0.heap.size (FL (.slice ua r.fields.length uc) r.fields) (setR5 w3 w.heap.size (.int .i64 r.id) (.int .i64 r.ver) (.int .i64 r.kind) (.string (S r.lang)) (.slice ua r.fields.length uc)) :=
      HN3.out.on (by rw [rec_size]; exact Nat.le_refl _) (fun i hi _ => rec_other i (by omega))
    have HNN := Lib.hid (hnn.mono (B := w.heap.size) (Nat.le_of_lt hlt0))
    unfold setR5 at hfin hb HNN
    clear hH HH hR3 hX3 hnn
    generalize S es = ses at *
    go_wp2
    (try simp only [Exit.inBlock, Exit.then])
    refine bodyPost_ret (results_row_tmp10 rfl _ _ w.heap.size _ _ _ _ rfl hfin.out Tryz.underlying40 rfl (by kernel_rfl)) rfl ?_
    exact HQ.out _ _ ⟨_, rfl, HNN.out, hb.out⟩
  · have hH := HH.out
    rw [if_neg (fun h => hok ⟨(Prod.mk.inj h).1, (Prod.mk.inj h).2⟩)] at hH
    obtain ⟨rfl, rfl⟩ := Prod.mk.inj hH
    have hfin := Lib.hid (rec_set5 (x0 := .int .i64 0) (x1 := .int .i64 0) (x2 := .int .i64 0) (x3 := .string ⟨#[]⟩) (x4 := .slice none 0 0) hR3)
    have hb := Lib.hid (rec_below (x0 := .int .i64 0) (x1 := .int .i64 0) (x2 := .int .i64 0) (x3 := .string ⟨#[]⟩) (x4 := .slice none 0 0) B3.out)
    unfold setR5 at hfin hb
    clear hH HH hR3 hX3
    by_cases h0 : ee = 0
    · rw [decide_eq_false (fun h => hok ⟨h, h0⟩)] at hq
      subst h0
      clear hok
      generalize S es = ses at *
      go_wp2
      (try simp only [Exit.inBlock, Exit.then])
      refine bodyPost_ret (results_row_tmp10 rfl _ _ w.heap.size _ _ _ _ rfl hfin.out Tryz.underlying40 rfl (by kernel_rfl)) rfl ?_
      exact HQ.out _ _ ⟨_, rfl, fl_none _ _, hb.out⟩
    · have t0 : (ee != 0) = true := by simpa using h0
      clear hq hok h0
      go_wp2
      (try simp only [Exit.inBlock, Exit.then])
      refine bodyPost_ret (results_row_tmp10 rfl _ _ w.heap.size _ _ _ _ rfl hfin.out Tryz.underlying40 rfl (by kernel_rfl)) rfl ?_
      exact HQ.out _ _ ⟨_, rfl, fl_none _ _, hb.out⟩
end

end Go.Proofs.YtiledacfdaenbaaGreatDoor
