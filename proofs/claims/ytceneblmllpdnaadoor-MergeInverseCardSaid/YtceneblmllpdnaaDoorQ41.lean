/- Merged: PB08. -/
import Derived.Test.YtceneblmllpdnaaDoorQ20
import Derived.Test.YtceneblmllpdnaaDoorQ10
import Derived.Test.YtceneblmllpdnaaDoorQ14
namespace Go.Proofs.YtceneblmllpdnaaDoor

section
open Go.RowKit Go.PlainAid
set_option maxHeartbeats 16000000 in
theorem equalFunc_any (A B : List Fld) (u v : Value) (w : World) (hu : FL u A w) (hv : FL v B w) (b : Bool) (hb : sameFB A B = b) :
    Calls Tryd.prog 37 #[u, v, .func (.func 18) #[] #[]] w fun e w' => e = .returned (.bool b) ∧ Below w.heap.size w w' := by
  have HU := Lib.hid hu
  have HV := Lib.hid hv
  obtain ⟨a, cap, rfl, hcap, hmax⟩ := hu.length
  obtain ⟨a', cap', rfl, hcap', hmax'⟩ := hv.length
  unfold maxLen at hmax hmax'
  have HEq := Lib.hid (sameFB_iff A B)
  have HX := Lib.hid (fields_ext A B)
  generalize sameFB A B = bb at *
  subst hb
  have cS := Lib.hid (fun k x y W hx hy z hz => fSame_any (A.getD k fd0) (B.getD k fd0) x y W hx hy z hz)
  unfold FV at cS
  obtain ⟨n, hn⟩ : ∃ n, A.length = n := ⟨_, rfl⟩
  obtain ⟨m, hm⟩ : ∃ m, B.length = m := ⟨_, rfl⟩
  rw [hn] at hcap HU ⊢
  rw [hm] at hcap' HV ⊢
  have HN := Lib.hid hn
  have HM := Lib.hid hm
  clear hn hm hu hv
  by_cases hnm : n ≠ m
  · have t : ((n : Int) != (m : Int)) = true := by simp; omega
    obtain rfl : bb = false := by
      cases h : bb
      · rfl
      · exact absurd (HEq.out.1 h) (fun e => hnm (by rw [← HN.out, ← HM.out, e]))
    clear hnm
    go_enter Tryd.func37, Tryd.ntmps37
    go_wp2
    go_ret
    exact ⟨rfl, Below.refl _ _⟩
  obtain rfl : n = m := Decidable.not_not.1 hnm
  have t : ((n : Int) != (n : Int)) = false := by simp
  clear hnm
  go_enter Tryd.func37, Tryd.ntmps37
  go_wp2
  go_loopw [17] (fun i wr => ∃ k : Nat, k ≤ n ∧ i = .int .i64 (k : Int) ∧ RowKit.Hid (∀ j, j < k → A.getD j fd0 = B.getD j fd0) ∧ Below w.heap.size w wr) (fun i _ => n - (intOf i).toNat)
  case atStart => exact ⟨0, Nat.zero_le _, rfl, (fun j hj => by omega), Below.refl _ _⟩
  case round =>
    obtain ⟨k, hk, rfl, HJ, hbw⟩ := hrel
    by_cases hkn : k < n
    · obtain ⟨g, o, cp, x, he, hg, c0, c1, c2, c3, hq⟩ := (HU.out.after hbw).at k (by rw [HN.out]; exact hkn)
      obtain ⟨ha, -, hcp⟩ := Value.slice.inj he
      subst ha hcp
      clear he
      obtain ⟨g', o', cp', y, he', hg', d0, d1, d2, d3, hq'⟩ := (HV.out.after hbw).at k (by rw [HM.out]; exact hkn)
      obtain ⟨ha', -, hcp'⟩ := Value.slice.inj he'
      subst ha' hcp'
      clear he'
      obtain ⟨ax, nx, cx, hx⟩ : ∃ ax nx cx, x = .slice ax nx cx := by obtain ⟨ax, cx, rfl, _⟩ := hq; exact ⟨_, _, _, rfl⟩
      subst hx
      obtain ⟨ay, ny, cy, hy⟩ : ∃ ax nx cx, y = .slice ax nx cx := by obtain ⟨ax, cx, rfl, _⟩ := hq'; exact ⟨_, _, _, rfl⟩
      subst hy
      obtain ⟨wa, hwa⟩ : ∃ wa, wr.alloc (.cells #[.string (S (A.getD k fd0).tag), .string (S (A.getD k fd0).ind), .slice ax nx cx, .int .i64 (A.getD k fd0).auth] 45) = wa := ⟨_, rfl⟩
      obtain ⟨wb, hwb⟩ : ∃ wb, wa.alloc (.cells #[.string (S (B.getD k fd0).tag), .string (S (B.getD k fd0).ind), .slice ay ny cy, .int .i64 (B.getD k fd0).auth] 45) = wb := ⟨_, rfl⟩
      have ba : Below wr.heap.size wr wa := by rw [← hwa]; exact (Below.refl _ _).alloc (Nat.le_refl _) _
      have bb' : Below wa.heap.size wa wb := by rw [← hwb]; exact (Below.refl _ _).alloc (Nat.le_refl _) _
      have hlta : wr.heap.size < wa.heap.size := by rw [← hwa]; simp
      have y0 : wb.cell? ⟨wr.heap.size, 0, none⟩ = some (.string (S (A.getD k fd0).tag)) := (bb'.cell (p := ⟨wr.heap.size, 0, none⟩) hlta).trans (by rw [← hwa]; simp)
      have y1 : wb.cell? ⟨wr.heap.size, 1, none⟩ = some (.string (S (A.getD k fd0).ind)) := (bb'.cell (p := ⟨wr.heap.size, 1, none⟩) hlta).trans (by rw [← hwa]; simp)
      have y2 : wb.cell? ⟨wr.heap.size, 2, none⟩ = some (.slice ax nx cx) := (bb'.cell (p := ⟨wr.heap.size, 2, none⟩) hlta).trans (by rw [← hwa]; simp)
      have y3 : wb.cell? ⟨wr.heap.size, 3, none⟩ = some (.int .i64 (A.getD k fd0).auth) := (bb'.cell (p := ⟨wr.heap.size, 3, none⟩) hlta).trans (by rw [← hwa]; simp)
      have z0 : wb.cell? ⟨wa.heap.size, 0, none⟩ = some (.string (S (B.getD k fd0).tag)) := by rw [← hwb]; simp
      have z1 : wb.cell? ⟨wa.heap.size, 1, none⟩ = some (.string (S (B.getD k fd0).ind)) := by rw [← hwb]; simp
      have z2 : wb.cell? ⟨wa.heap.size, 2, none⟩ = some (.slice ay ny cy) := by rw [← hwb]; simp
      have z3 : wb.cell? ⟨wa.heap.size, 3, none⟩ = some (.int .i64 (B.getD k fd0).auth) := by rw [← hwb]; simp
      have ba2 := ba.trans (bb'.mono ba.size)
      have hqb := hq.after ba2
      have hqb' := hq'.after ba2
      have d0 := (ba.cell (p := ⟨g', o' + k * 4, none⟩) hg').trans d0
      have d1 := (ba.cell (p := ⟨g', o' + k * 4 + 1, none⟩) hg').trans d1
      have d2 := (ba.cell (p := ⟨g', o' + k * 4 + 2, none⟩) hg').trans d2
      have d3 := (ba.cell (p := ⟨g', o' + k * 4 + 3, none⟩) hg').trans d3
      have HWA := Lib.hid hwa
      have HWB := Lib.hid hwb
      have Fin := Lib.hid (hbw.trans (ba2.mono hbw.size))
      clear hwa hwb ba bb' hlta ba2
      have i1 : (0 : Int) ≤ (k : Int) := by omega
      have i2 : (k : Int) < (n : Int) := by omega
      cases hsf : sameB (A.getD k fd0) (B.getD k fd0)
      · obtain rfl : bb = false := by
          cases h : bb
          · rfl
          · exact absurd (by rw [HEq.out.1 h]) (sameB_ne hsf)
        have cA := Lib.hid (cS.out k _ _ wb hqb hqb' false hsf)
        clear HJ hq hq' hqb hqb' hsf HEq HX hbw
        generalize S (A.getD k fd0).tag = t0 at *
        generalize S (A.getD k fd0).ind = t1 at *
        generalize (A.getD k fd0).auth = t3 at *
        generalize S (B.getD k fd0).tag = s0 at *
        generalize S (B.getD k fd0).ind = s1 at *
        generalize (B.getD k fd0).auth = s3 at *
        go_upto_region 6 with fail
        rw [HWA.out]
        go_upto_region 7 with fail
        rw [HWB.out]
        go_wp2_with fail
        refine cA.out.mono ?_
        rintro e w5 ⟨rfl, d⟩
        have Fin2 := Lib.hid (Fin.out.trans (d.mono Fin.out.size))
        all_goals
          go_wp2
          go_ret
          exact ⟨rfl, Fin2.out⟩
      · have cA := Lib.hid (cS.out k _ _ wb hqb hqb' true hsf)
        have HJ2 : RowKit.Hid (∀ j, j < k + 1 → A.getD j fd0 = B.getD j fd0) := by
          intro j hj
          rcases Nat.lt_or_ge j k with h | h
          · exact HJ.out j h
          · rw [show j = k by omega]; exact (sameB_iff _ _).1 hsf
        clear HJ hq hq' hqb hqb' hsf HEq HX hbw
        generalize S (A.getD k fd0).tag = t0 at *
        generalize S (A.getD k fd0).ind = t1 at *
        generalize (A.getD k fd0).auth = t3 at *
        generalize S (B.getD k fd0).tag = s0 at *
        generalize S (B.getD k fd0).ind = s1 at *
        generalize (B.getD k fd0).auth = s3 at *
        go_upto_region 6 with fail
        rw [HWA.out]
        go_upto_region 7 with fail
        rw [HWB.out]
        go_wp2_with fail
        refine cA.out.mono ?_
        rintro e w5 ⟨rfl, d⟩
        have Fin2 := Lib.hid (Fin.out.trans (d.mono Fin.out.size))
        all_goals
          go_wp2
          go_roundw
          case rel => exact ⟨k + 1, by omega, by go_num, HJ2, Fin2.out⟩
          case measure => simp [intOf]; omega
    · obtain rfl : k = n := by omega
      obtain rfl : bb = true := HEq.out.2 (HX.out (by rw [HN.out, HM.out]) (fun j hj => HJ.out j (by rw [HN.out] at hj; exact hj)))
      go_wp2
      go_ret
      exact ⟨rfl, hbw⟩
set_option maxHeartbeats 8000000 in
theorem pSame_any (r q : Rec) (u v : Value) (w : World) (hu : FL u r.fields w) (hv : FL v q.fields w) (b : Bool) (hb : sameRB r q = b) :
    Calls Tryd.prog 21 #[RV r u, RV q v] w fun e w' => e = .returned (.bool b) ∧ Below w.heap.size w w' := by
  unfold RV
  unfold sameRB at hb
  have cF := Lib.hid (fun W hx hy z hz => equalFunc_any r.fields q.fields u v W hx hy z hz)
  obtain ⟨W0, hW0⟩ : ∃ W0, (w.alloc (.cells #[.int .i64 r.id, .int .i64 r.ver, .int .i64 r.kind, .string (S r.lang), u] 31)).alloc (.cells #[.int .i64 q.id, .int .i64 q.ver, .int .i64 q.kind, .string (S q.lang), v] 31) = W0 := ⟨_, rfl⟩
  have b1 := (Below.refl w.heap.size w).alloc (Nat.le_refl _) (.cells #[.int .i64 r.id, .int .i64 r.ver, .int .i64 r.kind, .string (S r.lang), u] 31)
  have b0 : Below w.heap.size w W0 := by rw [← hW0]; exact b1.alloc (by simp) _
  have k0 : W0.cell? ⟨w.heap.size, 0, none⟩ = some (.int .i64 r.id) := by rw [← hW0]; simp
  have k1 : W0.cell? ⟨w.heap.size, 1, none⟩ = some (.int .i64 r.ver) := by rw [← hW0]; simp
  have k2 : W0.cell? ⟨w.heap.size, 2, none⟩ = some (.int .i64 r.kind) := by rw [← hW0]; simp
  have k3 : W0.cell? ⟨w.heap.size, 3, none⟩ = some (.string (S r.lang)) := by rw [← hW0]; simp
  have k4 : W0.cell? ⟨w.heap.size, 4, none⟩ = some u := by rw [← hW0]; simp
  have l0 : W0.cell? ⟨w.heap.size + 1, 0, none⟩ = some (.int .i64 q.id) := by rw [← hW0]; simp
  have l1 : W0.cell? ⟨w.heap.size + 1, 1, none⟩ = some (.int .i64 q.ver) := by rw [← hW0]; simp
  have l2 : W0.cell? ⟨w.heap.size + 1, 2, none⟩ = some (.int .i64 q.kind) := by rw [← hW0]; simp
  have l3 : W0.cell? ⟨w.heap.size + 1, 3, none⟩ = some (.string (S q.lang)) := by rw [← hW0]; simp
  have l4 : W0.cell? ⟨w.heap.size + 1, 4, none⟩ = some v := by rw [← hW0]; simp
  have HW0 := Lib.hid hW0
  have q3 := S_eq r.lang q.lang
  have hu0 := Lib.hid (hu.after b0)
  have hv0 := Lib.hid (hv.after b0)
  obtain ⟨a, cap, rfl, _, _⟩ := hu.length
  obtain ⟨a', cap', rfl, _, _⟩ := hv.length
  clear hW0 b1 hu hv
  generalize sameFB r.fields q.fields = sf at *
  generalize r.fields.length = n at *
  generalize q.fields.length = m at *
  by_cases h0 : r.id = q.id
  case neg =>
    rw [decide_eq_false h0] at hb
    simp only [Bool.false_and] at hb
    subst hb
    have t0 : (r.id == q.id) = false := by simpa using h0
    clear h0
    go_enter Tryd.func21, Tryd.ntmps21
    go_upto_region 1 with fail
    rw [HW0.out]
    go_wp2
    go_ret
    exact ⟨rfl, b0⟩
  rw [decide_eq_true h0] at hb
  have t0 : (r.id == q.id) = true := by simpa using h0
  clear h0
  by_cases h1 : r.ver = q.ver
  case neg =>
    rw [decide_eq_false h1] at hb
    simp only [Bool.false_and, Bool.and_false] at hb
    subst hb
    have t1 : (r.ver == q.ver) = false := by simpa using h1
    clear h1
    go_enter Tryd.func21, Tryd.ntmps21
    go_upto_region 1 with fail
    rw [HW0.out]
    go_wp2
    go_ret
    exact ⟨rfl, b0⟩
  rw [decide_eq_true h1] at hb
  have t1 : (r.ver == q.ver) = true := by simpa using h1
  clear h1
  by_cases h2 : r.kind = q.kind
  case neg =>
    rw [decide_eq_false h2] at hb
    simp only [Bool.false_and, Bool.and_false] at hb
    subst hb
    have t2 : (r.kind == q.kind) = false := by simpa using h2
    clear h2
    go_enter Tryd.func21, Tryd.ntmps21
    go_upto_region 1 with fail
    rw [HW0.out]
    go_wp2
    go_ret
    exact ⟨rfl, b0⟩
  rw [decide_eq_true h2] at hb
  have t2 : (r.kind == q.kind) = true := by simpa using h2
  clear h2
  by_cases h3 : r.lang = q.lang
  case neg =>
    rw [decide_eq_false h3] at hb q3
    simp only [Bool.false_and, Bool.and_false] at hb
    subst hb
    clear h3
    generalize S r.lang = x at *
    generalize S q.lang = y at *
    go_enter Tryd.func21, Tryd.ntmps21
    go_upto_region 1 with fail
    rw [HW0.out]
    go_wp2
    go_ret
    exact ⟨rfl, b0⟩
  rw [decide_eq_true h3] at hb q3
  simp only [Bool.true_and] at hb
  subst hb
  clear h3
  have c := Lib.hid (cF.out W0 hu0.out hv0.out sf rfl)
  generalize S r.lang = x at *
  generalize S q.lang = y at *
  go_enter Tryd.func21, Tryd.ntmps21
  go_upto_region 1 with fail
  rw [HW0.out]
  go_wp2_with fail
  refine c.out.mono ?_
  rintro e w5 ⟨rfl, d⟩
  have Fin := Lib.hid (b0.trans (d.mono b0.size))
  go_wp2
  go_ret
  exact ⟨rfl, Fin.out⟩
end

end Go.Proofs.YtceneblmllpdnaaDoor
