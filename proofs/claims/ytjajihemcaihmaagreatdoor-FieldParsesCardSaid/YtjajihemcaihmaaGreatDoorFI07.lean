/- Package field: Set. -/
import Derived.Test.YtjajihemcaihmaaGreatDoorFH07
namespace Go.Proofs.YtjajihemcaihmaaGreatDoor
open Go.RowKit Go.PlainAid

/-! What Set's loop in the reference makes, in three cases. -/
theorem setK_nil (L : List Sub) (c : UInt8) : ∀ k, k ≤ L.length → setK L c [] k = (keepL c (L.take k), true)
  | 0, _ => by simp [setK, keepL]
  | k + 1, h => by
    have ih := setK_nil L c k (by omega)
    rw [setK, ih, keepL_snoc c L k (by omega)]
    by_cases hc : (L.getD k sub0).1 ≠ c
    · rw [if_pos hc, if_pos hc]
    · rw [if_neg hc, if_neg hc, if_pos rfl, List.append_nil]
theorem setR_nil (L : List Sub) (c : UInt8) : setR L c [] = keepL c L := by
  unfold setR
  rw [setK_nil L c L.length (Nat.le_refl _), if_pos rfl, List.take_length]
theorem setK_low (L : List Sub) (c : UInt8) (v : List UInt8) (hv : v ≠ []) : ∀ k, k ≤ L.length → (∀ j, j < k → (L.getD j sub0).1 ≠ c) → setK L c v k = (L.take k, false)
  | 0, _, _ => by simp [setK, hv]
  | k + 1, h, hj => by
    have ih := setK_low L c v hv k (by omega) (fun j h' => hj j (by omega))
    rw [setK, ih, if_pos (hj k (Nat.lt_succ_self k)), take_snoc L k (by omega)]
theorem setR_miss (L : List Sub) (c : UInt8) (v : List UInt8) (hv : v ≠ []) (hj : ∀ j, j < L.length → (L.getD j sub0).1 ≠ c) : setR L c v = L ++ [(c, v)] := by
  unfold setR
  rw [setK_low L c v hv L.length (Nat.le_refl _) hj, if_neg (fun h => by cases h), List.take_length]
theorem setK_high (L : List Sub) (c : UInt8) (v : List UInt8) (hv : v ≠ []) (k : Nat) (hk : k < L.length) (hj : ∀ j, j < k → (L.getD j sub0).1 ≠ c) (he : (L.getD k sub0).1 = c) :
    ∀ m, k + 1 + m ≤ L.length → setK L c v (k + 1 + m) = ((L.set k (c, v)).take (k + 1 + m), true)
  | 0, _ => by
    show setK L c v (k + 1) = _
    rw [setK, setK_low L c v hv k (by omega) hj, if_neg (fun h => h he), if_neg hv, if_neg (fun h => by cases h)]
    have e : (L.set k (c, v)).take (k + 1) = (L.set k (c, v)).take k ++ [(L.set k (c, v)).getD k sub0] := take_snoc _ k (by rw [List.length_set]; exact hk)
    rw [Nat.add_zero, e, List.take_set, List.set_eq_of_length_le (by rw [List.length_take]; omega), List.getD_eq_getElem?_getD, List.getElem?_set_self hk]
    rfl
  | m + 1, h => by
    have ih := setK_high L c v hv k hk hj he m (by omega)
    have hm : k + 1 + m < L.length := by omega
    have e : (L.set k (c, v)).take (k + 1 + m + 1) = (L.set k (c, v)).take (k + 1 + m) ++ [(L.set k (c, v)).getD (k + 1 + m) sub0] := take_snoc _ _ (by rw [List.length_set]; exact hm)
    have e2 : (L.set k (c, v)).getD (k + 1 + m) sub0 = L.getD (k + 1 + m) sub0 := by
      rw [List.getD_eq_getElem?_getD, List.getElem?_set_ne (by omega), ← List.getD_eq_getElem?_getD]
    show setK L c v (k + 1 + m + 1) = ((L.set k (c, v)).take (k + 1 + m + 1), true)
    rw [setK, ih, e, e2]
    by_cases hc : (L.getD (k + 1 + m) sub0).1 ≠ c
    · rw [if_pos hc]
    · rw [if_neg hc, if_neg hv, if_pos rfl]
theorem setR_hit (L : List Sub) (c : UInt8) (v : List UInt8) (hv : v ≠ []) (k : Nat) (hk : k < L.length) (hj : ∀ j, j < k → (L.getD j sub0).1 ≠ c) (he : (L.getD k sub0).1 = c) : setR L c v = L.set k (c, v) := by
  have h := setK_high L c v hv k hk hj he (L.length - (k + 1)) (by omega)
  rw [show k + 1 + (L.length - (k + 1)) = L.length by omega] at h
  unfold setR
  rw [h, if_pos rfl]
  show (L.set k (c, v)).take L.length = _
  rw [List.take_of_length_le (by rw [List.length_set]; exact Nat.le_refl _)]

set_option maxHeartbeats 4000000 in
/-- coded, with the box that it makes. -/
theorem coded_at (c : UInt8) (w : World) :
    Calls Tryz.prog 24 #[.int .u8 (c.toNat : Int)] w fun e w' => e = .returned (.func (.func 43) #[] #[.pointer (some ⟨w.heap.size, 0, none⟩)]) ∧ w' = w.alloc (.cells #[.int .u8 (c.toNat : Int)] 5) := by
  go_enter Tryz.func24, Tryz.ntmps24
  go_wp2
  go_ret
  exact ⟨rfl, rfl⟩

set_option maxHeartbeats 16000000 in
set_option maxRecDepth 100000 in
theorem fSet_any (f : Fld) (u : Value) (w : World) (hu : QL u f.subs w) (code : UInt8) (val : List UInt8) (hs : f.subs.length ≤ 1000) :
    Calls Tryz.prog 13 #[FV f u, .int .u8 (code.toNat : Int), .string (S val)] w fun e w' => ∃ v', e = .returned (FV { f with subs := setR f.subs code val } v') ∧ QL v' (setR f.subs code val) w' ∧ Below w.heap.size w w' := by
  obtain ⟨a, cap, rfl, _, _⟩ := hu.length
  unfold FV
  obtain ⟨W0, hW0⟩ : ∃ W0, (w.alloc (.cells #[.string (S f.tag), .string (S f.ind), .slice a f.subs.length cap, .int .i64 f.auth] 25)).alloc (.cells #[.string ⟨#[]⟩, .string ⟨#[]⟩, .slice none 0 0, .int .i64 0] 25) = W0 := ⟨_, rfl⟩
  have b0 : Below w.heap.size w W0 := by rw [← hW0]; exact ((Below.refl w.heap.size w).alloc (Nat.le_refl _) _).alloc (by simp) _
  have hsz0 : W0.heap.size = w.heap.size + 2 := by rw [← hW0]; simp
  have k2 : W0.cell? ⟨w.heap.size, 2, none⟩ = some (.slice a f.subs.length cap) := by rw [← hW0]; simp
  have hF : W0.heap[w.heap.size]? = some (.cells #[.string (S f.tag), .string (S f.ind), .slice a f.subs.length cap, .int .i64 f.auth] 25 (0, 0)) := by
    rw [← hW0]
    exact (Below.heap_alloc _ _ _ (by simp)).trans (heap_alloc_new w _)
  have hR : W0.heap[w.heap.size + 1]? = some (.cells #[.string ⟨#[]⟩, .string ⟨#[]⟩, .slice none 0 0, .int .i64 0] 25 (0, 0)) := by
    rw [← hW0]
    have := heap_alloc_new (w.alloc (.cells #[.string (S f.tag), .string (S f.ind), .slice a f.subs.length cap, .int .i64 f.auth] 25)) (.cells #[.string ⟨#[]⟩, .string ⟨#[]⟩, .slice none 0 0, .int .i64 0] 25)
    simpa using this
  have hlt : w.heap.size < W0.heap.size := by omega
  have hlt1 : w.heap.size + 1 < W0.heap.size := by omega
  have cCl := Lib.hid (clone_any f.subs _ W0 (hu.after b0) (by omega))
  clear hsz0 hu
  have HW0 := Lib.hid hW0
  have HF := Lib.hid hF
  have HRb := Lib.hid hR
  clear hW0 hF hR
  have hE2 : (S val).toList.isEmpty = decide (val = []) := by
    rw [ByteArray.toList_eq]
    show val.isEmpty = _
    cases val with
    | nil => rfl
    | cons y t => simp
  have hE3 : ((S val).toList == []) = decide (val = []) := by
    rw [ByteArray.toList_eq]
    show (val == []) = _
    cases val with
    | nil => rfl
    | cons y t => simp
  have cC := Lib.hid (fun W => coded_any code W)
  have cC2 := Lib.hid (fun W => coded_at code W)
  obtain ⟨sv, hsv⟩ : ∃ sv, S val = sv := ⟨_, rfl⟩
  rw [hsv] at hE2 hE3 ⊢
  have HSV := Lib.hid hsv
  clear hsv
  obtain ⟨cy, hcy⟩ : ∃ cy, ((code.toNat : Nat) : Int) = cy := ⟨_, rfl⟩
  rw [hcy] at cC cC2 ⊢
  have HCY := Lib.hid hcy
  clear hcy
  by_cases hv : val = []
  · -- the value is empty: the code is struck
    rw [decide_eq_true hv] at hE2 hE3
    have hRR : setR f.subs code val = keepL code f.subs := by rw [hv]; exact setR_nil _ _
    rw [hRR]
    clear hRR hv
    have cI := Lib.hid (fun v W (hq : QL v f.subs W) fv (hf : CL code fv W) => (first_code f.subs code).elim (fun h => (index_miss f.subs v fv W hq code hf h).mono fun e w' hh => (⟨-1, hh⟩ : ∃ i : Int, e = .returned (.int .i64 i) ∧ Below W.heap.size W w')) (fun ⟨k, hk, hj, he⟩ => (index_hit f.subs v fv W hq code hf k hk hj he).mono fun e w' hh => ⟨(k : Int), hh⟩))
    have cD := Lib.hid (fun v b W ho hB hb hbc hne => delete_any W0.heap.size f.subs v code b W ho hB hb hbc hne (by omega))
    rw [show ((code.toNat : Nat) : Int) = cy from HCY.out] at cD
    go_enter Tryz.func13, Tryz.ntmps13
    go_wp2_with fail
    rw [HW0.out]
    refine cCl.out.mono ?_
    rintro e w1 ⟨v1, rfl, h1, c1⟩
    obtain ⟨ao1, cp1, rfl⟩ := own_form h1
    have hq1 := QL.of_row h1
    have H1 := Lib.hid h1
    have C1 := Lib.hid c1
    have s1 := c1.size
    clear h1 c1
    go_wp2_with fail
    refine (cC.out _).mono ?_
    rintro e w2 ⟨fv, rfl, hf2, c2⟩
    have hq2 := hq1.after c2
    have H2 := Lib.hid (own_after H1.out c2)
    have C2 := Lib.hid (C1.out.trans (c2.mono s1))
    have s2 := Nat.le_trans s1 c2.size
    clear c2 H1 C1 hq1
    go_wp2_with fail
    refine (cI.out _ _ hq2 _ hf2).mono ?_
    rintro e w3 ⟨ix, rfl, c3⟩
    have H3 := Lib.hid (own_after H2.out c3)
    have C3 := Lib.hid (C2.out.trans (c3.mono s2))
    have s3 := Nat.le_trans s2 c3.size
    clear c3 H2 C2 hq2 hf2
    go_wp2_with fail
    refine (cC2.out _).mono ?_
    rintro e w4 ⟨rfl, hw4⟩
    have c4 := (Below.refl w3.heap.size w3).alloc (Nat.le_refl _) (.cells #[.int .u8 cy] 5)
    have hb4 : (w3.alloc (.cells #[.int .u8 cy] 5)).cell? ⟨w3.heap.size, 0, none⟩ = some (.int .u8 cy) := by simp
    have hl4 : w3.heap.size < (w3.alloc (.cells #[.int .u8 cy] 5)).heap.size := by simp
    rw [← hw4] at c4 hb4 hl4
    have H4 := Lib.hid (own_after H3.out c4)
    have C4 := Lib.hid (C3.out.trans (c4.mono s3))
    have s4 := Nat.le_trans s3 c4.size
    have hne : ∀ g n cap, Value.slice ao1 f.subs.length cp1 = .slice (some ⟨g, 0, none⟩) n cap → g ≠ w3.heap.size := by
      intro g n cap hv1
      simp only [Value.slice.injEq] at hv1
      obtain ⟨rfl, rfl, rfl⟩ := hv1
      exact Nat.ne_of_lt (own_facts H3.out).2.1
    clear c4 hw4 C3
    go_wp2_with fail
    refine (cD.out _ _ _ H4.out s4 hl4 hb4 hne).mono ?_
    rintro e w5 ⟨v5, rfl, h5, c5⟩
    have c5' := C4.out.trans (c5.mono (Nat.le_refl _))
    obtain ⟨ao, cp, rfl⟩ := own_form h5
    have hE := set_end hlt hlt1 b0 HF.out HRb.out c5' h5
    obtain ⟨⟨q0, q1, q2, q3⟩, fF, ⟨r0, r1, r2, r3⟩, ⟨g0, g1, g2, g3⟩, hfin, hql, hbl⟩ := hE
    clear h5 c5 c5' hne hb4 hl4 k2
    go_wp2
    (try simp only [Exit.inBlock, Exit.then])
    refine bodyPost_ret (results_cell_row rfl _ _ (w.heap.size + 1) _ _ _ _ rfl hfin.out Tryz.underlying25 rfl (by kernel_rfl)) rfl ?_
    exact ⟨_, rfl, hql.out, hbl.out⟩
  rw [decide_eq_false hv] at hE2 hE3
  rcases first_code f.subs code with hmiss | ⟨k, hk, hj, he⟩
  · -- there is none: it is appended
    rw [setR_miss f.subs code val hv hmiss]
    have cI := Lib.hid (fun v W (hq : QL v f.subs W) fv (hf : CL code fv W) => index_miss f.subs v fv W hq code hf hmiss)
    clear hv hmiss
    obtain ⟨i0, hi, hz0, hz1, hz2⟩ := info_sub
    have HZ0 := Lib.hid hz0
    have HZ1 := Lib.hid hz1
    have HZ2 := Lib.hid hz2
    have HI := Lib.hid hi
    clear hi hz0 hz1 hz2
    have hnew : cellsL (f.subs ++ [(code, val)]) = cellsL f.subs ++ [.int .u8 cy, .string sv] := by
      rw [cellsL_snoc]
      unfold encS
      rw [show ((code, val) : Sub).1 = code from rfl, show ((code, val) : Sub).2 = val from rfl, HCY.out, HSV.out]
    have hnl : (f.subs ++ [(code, val)]).length = f.subs.length + 1 := by simp
    have HNew := Lib.hid hnew
    have HNL := Lib.hid hnl
    clear hnew hnl
    generalize f.subs ++ [(code, val)] = R at *
    go_enter Tryz.func13, Tryz.ntmps13
    go_wp2_with fail
    rw [HW0.out]
    refine cCl.out.mono ?_
    rintro e w1 ⟨v1, rfl, h1, c1⟩
    obtain ⟨ao1, cp1, rfl⟩ := own_form h1
    have hq1 := QL.of_row h1
    have H1 := Lib.hid h1
    have C1 := Lib.hid c1
    have s1 := c1.size
    clear h1 c1
    go_wp2_with fail
    refine (cC.out _).mono ?_
    rintro e w2 ⟨fv, rfl, hf2, c2⟩
    have hq2 := hq1.after c2
    have H2 := Lib.hid (own_after H1.out c2)
    have C2 := Lib.hid (C1.out.trans (c2.mono s1))
    have s2 := Nat.le_trans s1 c2.size
    clear c2 H1 C1 hq1
    go_wp2_with fail
    refine (cI.out _ _ hq2 _ hf2).mono ?_
    rintro e w3 ⟨rfl, c3⟩
    have h3 := own_after H2.out c3
    have C3 := Lib.hid (C2.out.trans (c3.mono s2))
    have s3 := Nat.le_trans s2 c3.size
    have h3A := h3.alloc (.cells #[.int .u8 cy, .string sv] 32)
    have hct := cells_two w3 (.int .u8 cy) (.string sv) 32
    have HCT := Lib.hid hct
    have H3A := Lib.hid h3A
    clear c3 H2 C2 hq2 hf2 h3 h3A hct k2
    go_wp2_with (at_builtin; refine wpList_append_own _ rfl _ _ 23 rfl W0.heap.size 32 i0 (.agg #[.int .u8 0, .string ⟨#[]⟩]) 2 24 Tryz.underlying23 HI.out HZ0.out HZ1.out HZ2.out rfl (by decide) _ _ _ rfl H3A.out ⟨w3.heap.size, 0, none⟩ 1 1 [.int .u8 cy, .string sv] rfl rfl HCT.out (by intro u hu; simp at hu; rcases hu with rfl | rfl <;> rfl) (by unfold maxLen; omega) (by omega) (by simp; omega) ?_; intro v5 w5 hown5 hgrow5 hnil5; clear hnil5; obtain ⟨ao, cp, rfl⟩ := own_form hown5; (have hb5 := (C3.out.alloc s3 (.cells #[.int .u8 cy, .string sv] 32)).grown hgrow5 (by simp; omega) (fun j hj => (H3A.out.lt j hj).1)); (have h5 : w5.ownsRow W0.heap.size 32 2 (.slice ao (f.subs.length + 1) cp) R.length (cellsL R) := (by rw [HNew.out, HNL.out]; exact hown5)); (have hE := set_end hlt hlt1 b0 HF.out HRb.out hb5 h5); obtain ⟨⟨q0, q1, q2, q3⟩, fF, ⟨r0, r1, r2, r3⟩, ⟨g0, g1, g2, g3⟩, hfin, hql, hbl⟩ := hE; clear hown5 hgrow5 hb5 h5)
    (try simp only [Exit.inBlock, Exit.then])
    refine bodyPost_ret (results_cell_row rfl _ _ (w.heap.size + 1) _ _ _ _ rfl hfin.out Tryz.underlying25 rfl (by kernel_rfl)) rfl ?_
    exact ⟨_, rfl, hql.out, hbl.out⟩
  · -- the first one has another value
    rw [setR_hit f.subs code val hv k hk hj he]
    have cI := Lib.hid (fun v W (hq : QL v f.subs W) fv (hf : CL code fv W) => index_hit f.subs v fv W hq code hf k hk hj he)
    have hnew : cellsL (f.subs.set k (code, val)) = (cellsL f.subs).set (k * 2 + 1) (.string sv) := by
      rw [cellsL_set f.subs k (code, val) hk]
      have hat := (cellsL_at f.subs k hk).1
      rw [he] at hat
      rw [show ((code, val) : Sub).1 = code from rfl, show ((code, val) : Sub).2 = val from rfl, HSV.out]
      congr 1
      refine List.ext_getElem? fun i => ?_
      by_cases hi : i = k * 2
      · subst hi
        rw [List.getElem?_set_self (by rw [cellsL_length]; omega), hat]
      · rw [List.getElem?_set_ne (Ne.symm hi)]
    have HNew := Lib.hid hnew
    have HNL := Lib.hid (show (f.subs.set k (code, val)).length = f.subs.length by simp)
    clear hv hj he hnew
    generalize f.subs.set k (code, val) = R at *
    go_enter Tryz.func13, Tryz.ntmps13
    go_wp2_with fail
    rw [HW0.out]
    refine cCl.out.mono ?_
    rintro e w1 ⟨v1, rfl, h1, c1⟩
    have hq1 := QL.of_row h1
    have H1 := Lib.hid h1
    have C1 := Lib.hid c1
    have s1 := c1.size
    obtain ⟨g, cp, rfl⟩ : ∃ g cp, v1 = .slice (some ⟨g, 0, none⟩) f.subs.length cp := by
      rcases h1.2 with ⟨_, h0⟩ | ⟨g, cap, cur, hv, _⟩
      · omega
      · exact ⟨g, cap, hv⟩
    clear h1 c1
    go_wp2_with fail
    refine (cC.out _).mono ?_
    rintro e w2 ⟨fv, rfl, hf2, c2⟩
    have hq2 := hq1.after c2
    have H2 := Lib.hid (own_after H1.out c2)
    have C2 := Lib.hid (C1.out.trans (c2.mono s1))
    have s2 := Nat.le_trans s1 c2.size
    clear c2 H1 C1 hq1
    go_wp2_with fail
    refine (cI.out _ _ hq2 _ hf2).mono ?_
    rintro e w3 ⟨rfl, c3⟩
    have h3 := own_after H2.out c3
    have C3 := Lib.hid (C2.out.trans (c3.mono s2))
    have s3 := Nat.le_trans s2 c3.size
    obtain ⟨hBg, hgw, _, _, hfz, hsome⟩ := own_facts h3
    have f1 := hfz (k * 2 + 1)
    obtain ⟨z1, hz1⟩ := Option.isSome_iff_exists.1 (hsome (k * 2 + 1) (by omega))
    have h4 := own_set h3 (p := k * 2 + 1) (.string sv)
    rw [← HNew.out, ← HNL.out] at h4
    rw [HNL.out] at h4
    have hb4 := C3.out.setCell (p := ⟨g, k * 2 + 1, none⟩) hBg (.string sv)
    have h4' : (w3.setCell ⟨g, k * 2 + 1, none⟩ (.string sv)).ownsRow W0.heap.size 32 2 (.slice (some ⟨g, 0, none⟩) f.subs.length cp) R.length (cellsL R) := by rw [HNL.out]; exact h4
    have hE := set_end hlt hlt1 b0 HF.out HRb.out hb4 h4'
    obtain ⟨⟨q0, q1, q2, q3⟩, fF, ⟨r0, r1, r2, r3⟩, ⟨g0, g1, g2, g3⟩, hfin, hql, hbl⟩ := hE
    have i1 : (0 : Int) ≤ (k : Int) := by omega
    have i2 : (k : Int) < (f.subs.length : Int) := by omega
    have i3 : ¬ (k : Int) < 0 := by omega
    clear c3 H2 C2 hq2 hf2 h3 hfz hsome h4 h4' hb4 k2
    go_wp2
    (try simp only [Exit.inBlock, Exit.then])
    refine bodyPost_ret (results_cell_row rfl _ _ (w.heap.size + 1) _ _ _ _ rfl hfin.out Tryz.underlying25 rfl (by kernel_rfl)) rfl ?_
    exact ⟨_, rfl, hql.out, hbl.out⟩
end Go.Proofs.YtjajihemcaihmaaGreatDoor
