/- Merged: R08H, R08I, PJ08. -/
import Derived.Test.YtcnjjdbpcobolaaGreatDoorQ17
import Derived.Test.YtcnjjdbpcobolaaGreatDoorQ15
import Derived.Test.YtcnjjdbpcobolaaGreatDoorQ03
import Derived.Test.YtcnjjdbpcobolaaGreatDoorQ12
namespace Go.Proofs.YtcnjjdbpcobolaaGreatDoor

section
open Go.RowKit Go.PlainAid
theorem digB_nat (x : UInt8) : digB x = (decide ((48 : Int) ≤ (x.toNat : Int)) && decide ((x.toNat : Int) ≤ 57)) := by
  unfold digB
  congr 1
  · rw [decide_eq_decide]; omega
  · rw [decide_eq_decide]; omega
theorem yearB_drop (l : List UInt8) (k N D : Nat) (h : k < l.length) : yearB (l.drop k) N D = if digB (l.getD k 0) = true then yearB (l.drop (k + 1)) (digN N D (l.getD k 0)) (D + 1) else if yearOK N D ≠ 0 then yearOK N D else yearB (l.drop (k + 1)) 0 0 := by
  rw [List.drop_eq_getElem_cons h, List.getD_eq_getElem?_getD, List.getElem?_eq_getElem h]
  rfl

theorem yearOK_cases (N D : Nat) : (((D : Int) == 4) = false ∧ decide ((D : Int) = 4) = false ∧ yearOK N D = 0) ∨ (((D : Int) == 4) = true ∧ decide ((D : Int) = 4) = true ∧ decide ((1000 : Int) ≤ (N : Int)) = false ∧ yearOK N D = 0) ∨
    (((D : Int) == 4) = true ∧ decide ((D : Int) = 4) = true ∧ decide ((1000 : Int) ≤ (N : Int)) = true ∧ decide ((N : Int) ≤ 2199) = false ∧ yearOK N D = 0) ∨
    (((D : Int) == 4) = true ∧ decide ((D : Int) = 4) = true ∧ decide ((1000 : Int) ≤ (N : Int)) = true ∧ decide ((N : Int) ≤ 2199) = true ∧ yearOK N D = (N : Int) ∧ (N : Int) ≠ 0) := by
  unfold yearOK
  by_cases h1 : D = 4
  · have e : (D : Int) = 4 := by omega
    have e1 : ((D : Int) == 4) = true := by rw [e]; rfl
    by_cases h2 : 1000 ≤ N
    · by_cases h3 : N ≤ 2199
      · exact .inr (.inr (.inr ⟨e1, decide_eq_true e, decide_eq_true (by omega), decide_eq_true (by omega), by rw [if_pos ⟨h1, h2, h3⟩], by omega⟩))
      · exact .inr (.inr (.inl ⟨e1, decide_eq_true e, decide_eq_true (by omega), decide_eq_false (by omega), by rw [if_neg (fun h => h3 h.2.2)]⟩))
    · exact .inr (.inl ⟨e1, decide_eq_true e, decide_eq_false (by omega), by rw [if_neg (fun h => h2 h.2.1)]⟩)
  · have e : ¬ (D : Int) = 4 := by omega
    exact .inl ⟨by simpa using e, decide_eq_false e, by rw [if_neg (fun h => h1 h.1)]⟩

set_option maxHeartbeats 8000000 in
theorem refYear1_any (l : List UInt8) (w : World) (hz : l.length ≤ 1000000) :
    Calls Tryz.prog 62 #[.string (S l)] w fun e w' => e = .returned (.int .i64 (yearB l 0 0)) ∧ w' = w := by
  obtain ⟨y, hy⟩ : ∃ y, yearB l 0 0 = y := ⟨_, rfl⟩
  have h0 : yearB (l.drop 0) 0 0 = y := by rw [List.drop_zero]; exact hy
  rw [hy]
  obtain ⟨n, hn⟩ : ∃ n, l.length = n := ⟨_, rfl⟩
  have hsz : (S l).size = n := by rw [S_size, hn]
  have hbt := get_bt (S l)
  have HBS := Lib.hid (fun i => bt_S l i)
  have HDr := Lib.hid (fun k N D (h : k < n) => yearB_drop l k N D (by omega))
  have HEnd : RowKit.Hid (∀ N D, yearB (l.drop n) N D = yearOK N D) := by
    unfold RowKit.Hid
    intro N D
    rw [List.drop_of_length_le (by omega)]
    rfl
  rw [hn] at hz
  have H0 := Lib.hid h0
  clear h0 hy hn
  generalize S l = s at *
  obtain ⟨Y, hY⟩ : ∃ Y : Nat → Nat → Nat → Int, (fun k N D => yearB (l.drop k) N D) = Y := ⟨_, rfl⟩
  have HDr2 : RowKit.Hid (∀ k N D, k < n → Y k N D = if digB (l.getD k 0) = true then Y (k + 1) (digN N D (l.getD k 0)) (D + 1) else if yearOK N D ≠ 0 then yearOK N D else Y (k + 1) 0 0) := by
    subst hY
    exact HDr.out
  have HEnd2 : RowKit.Hid (∀ N D, Y n N D = yearOK N D) := by subst hY; exact HEnd.out
  have H02 : RowKit.Hid (Y 0 0 0 = y) := by subst hY; exact H0.out
  clear HDr HEnd H0 hY
  go_enter Tryz.func62, Tryz.ntmps62
  go_wp2
  go_loopw [3, 4, 5] (fun a b i wr => ∃ k N D : Nat, k ≤ n + 1 ∧ a = .int .i64 (N : Int) ∧ b = .int .i64 (D : Int) ∧ i = .int .i64 (k : Int) ∧ D ≤ k ∧ (D = 0 → N = 0) ∧ (D = 1 → N ≤ 9) ∧ (D = 2 → N ≤ 99) ∧ (D = 3 → N ≤ 999) ∧ N ≤ 9999 ∧ (k ≤ n → RowKit.Hid (Y k N D = y)) ∧ (k = n + 1 → RowKit.Hid (y = 0)) ∧ w = wr) (fun _ _ i _ => n + 1 - (intOf i).toNat)
  case atStart => exact ⟨0, 0, 0, Nat.zero_le _, rfl, rfl, rfl, Nat.le_refl _, (fun _ => rfl), (by omega), (by omega), (by omega), (by omega), (fun _ => H02), (fun h => by omega), rfl⟩
  case round =>
    obtain ⟨k, N, D, hk, rfl, rfl, rfl, hDk, q0, q1, q2, q3, qN, hY, hy0, rfl⟩ := hrel
    by_cases hkn : k < n
    · have hki : (k : Int) < (n : Int) := by omega
      have hki2 : (k : Int) ≤ (n : Int) := by omega
      have hk0 : (0 : Int) ≤ (k : Int) := by omega
      have hbk := HBS.out k
      have hst := HDr2.out k N D hkn
      rw [(hY (by omega)).out] at hst
      have hdn := digB_nat (l.getD k 0)
      have hlt := (l.getD k 0).toNat_lt
      unfold digN at hst
      generalize (l.getD k 0).toNat = m at *
      generalize digB (l.getD k 0) = dg at *
      clear hY hy0
      by_cases h1 : 48 ≤ m ∧ m ≤ 57
      · have t1 : decide ((48 : Int) ≤ (m : Int)) = true := decide_eq_true (by omega)
        have t2 : decide ((m : Int) ≤ 57) = true := decide_eq_true (by omega)
        have hdt : dg = true := by rw [hdn, t1, t2]; rfl
        rw [if_pos hdt] at hst
        have HSt := Lib.hid hst
        have e1 : IntKind.u8.wrap ((m : Int) - 48) = (m : Int) - 48 := by rw [IntKind.wrap_u8]; omega
        clear hst hdn hdt
        by_cases h4 : D + 1 ≤ 4
        · have t4 : decide (((D : Int) + 1) ≤ 4) = true := decide_eq_true (by omega)
          go_wp2
          go_roundw
          case rel =>
            refine ⟨k + 1, N * 10 + (m - 48), D + 1, by omega, by go_num, by go_num, by go_num, by omega, by omega, by omega, by omega, by omega, by omega, (fun _ => ?_), (fun h => by omega), trivial⟩
            have := HSt.out
            rw [if_pos h4] at this
            exact this.symm
          case measure => simp [intOf]; omega
        · have t4 : decide (((D : Int) + 1) ≤ 4) = false := decide_eq_false (by omega)
          go_wp2
          go_roundw
          case rel =>
            refine ⟨k + 1, N, D + 1, by omega, rfl, by go_num, by go_num, by omega, by omega, by omega, by omega, by omega, by omega, (fun _ => ?_), (fun h => by omega), trivial⟩
            have := HSt.out
            rw [if_neg h4] at this
            exact this.symm
          case measure => simp [intOf]; omega
      · have hdt : dg = false := by
          rw [hdn]
          rcases Nat.lt_or_ge m 48 with h | h
          · rw [decide_eq_false (show ¬ (48 : Int) ≤ (m : Int) by omega), Bool.false_and]
          · rw [decide_eq_false (show ¬ (m : Int) ≤ 57 by omega), Bool.and_false]
        rw [hdt, if_neg (by decide)] at hst
        have hr : (decide ((48 : Int) ≤ (m : Int)) = false) ∨ (decide ((48 : Int) ≤ (m : Int)) = true ∧ decide ((m : Int) ≤ 57) = false) := by
          rcases Nat.lt_or_ge m 48 with h | h
          · exact .inl (decide_eq_false (by omega))
          · exact .inr ⟨decide_eq_true (by omega), decide_eq_false (by omega)⟩
        have hyc := yearOK_cases N D
        generalize yearOK N D = z at hst hyc
        have HSt := Lib.hid hst
        clear hst hdn hdt h1
        rcases hr with t1 | ⟨t1, t2⟩
        all_goals
          rcases hyc with ⟨tD, tE, rfl⟩ | ⟨tD, tE, tN, rfl⟩ | ⟨tD, tE, tN, tM, rfl⟩ | ⟨tD, tE, tN, tM, rfl, hne⟩
          iterate 3
            · go_wp2
              go_roundw
              case rel =>
                refine ⟨k + 1, 0, 0, by omega, rfl, rfl, by go_num, by omega, by omega, by omega, by omega, by omega, by omega, (fun _ => ?_), (fun h => by omega), trivial⟩
                have := HSt.out
                rw [if_neg (fun h => h rfl)] at this
                exact this.symm
              case measure => simp [intOf]; omega
          · go_wp2
            go_ret
            have := HSt.out
            rw [if_pos hne] at this
            rw [this]
            exact ⟨rfl, rfl⟩
    · by_cases hkn1 : k = n
      · subst hkn1
        have hst := HEnd2.out N D
        rw [(hY (Nat.le_refl _)).out] at hst
        have hyc := yearOK_cases N D
        generalize yearOK N D = z at hst hyc
        have HSt := Lib.hid hst
        clear hst hY hy0
        rcases hyc with ⟨tD, tE, rfl⟩ | ⟨tD, tE, tN, rfl⟩ | ⟨tD, tE, tN, tM, rfl⟩ | ⟨tD, tE, tN, tM, rfl, hne⟩
        iterate 3
          · go_wp2
            go_roundw
            case rel => exact ⟨k + 1, 0, 0, by omega, rfl, rfl, by go_num, by omega, by omega, by omega, by omega, by omega, by omega, (fun h => by omega), (fun _ => HSt), trivial⟩
            case measure => simp [intOf]
        · go_wp2
          go_ret
          rw [HSt.out]
          exact ⟨rfl, rfl⟩
      · obtain rfl : k = n + 1 := by omega
        have HY0 := hy0 rfl
        clear hY hy0
        go_wp2
        go_ret
        rw [HY0.out]
        exact ⟨rfl, rfl⟩

set_option maxHeartbeats 8000000 in
theorem refJoined_any (v : Value) (L : List (List UInt8)) (c : List UInt8) (w : World) (hv : BL v L w) (hc : c.length ≤ 1000) (hL : ∀ i, (L.getD i []).length ≤ 1000000) (hn : L.length ≤ 1000) :
    Calls Tryz.prog 64 #[v, .string (S c)] w fun e w' => e = .returned (.string (S (joinK c L L.length))) ∧ w' = w := by
  obtain ⟨a, cap, rfl, hcap, hmax, _, hcell⟩ := hv
  unfold maxLen at hmax
  obtain ⟨n, hnn⟩ : ∃ n, L.length = n := ⟨_, rfl⟩
  have HCell := Lib.hid hcell
  have HLe := Lib.hid (joinK_le c L hc hL)
  have HL := Lib.hid hL
  rw [hnn] at hcap hn ⊢
  have HN := Lib.hid hnn
  have hcs := S_size c
  clear hcell hnn hL
  go_enter Tryz.func64, Tryz.ntmps64
  go_wp2
  go_loop [5, 6] (fun o i => ∃ k : Nat, k ≤ n ∧ i = .int .i64 (k : Int) ∧ o = .string (S (joinK c L k))) (fun _ i => n - (intOf i).toNat)
  case atStart => exact ⟨0, Nat.zero_le _, rfl, rfl⟩
  case round =>
    obtain ⟨k, hk, rfl, rfl⟩ := hrel
    by_cases hkn : k < n
    · obtain ⟨g, o, rfl, hg, c0⟩ := HCell.out k (by rw [HN.out]; exact hkn)
      have c1 : w.cell? ⟨g, o + k, none⟩ = some (.string (S (L.getD k []))) := c0
      clear c0
      have i1 : (0 : Int) ≤ (k : Int) := by omega
      have i2 : (k : Int) < (n : Int) := by omega
      have hb1 := HLe.out k
      have hb2 := HL.out k
      have HJ := Lib.hid (show joinK c L (k + 1) = if k = 0 then L.getD 0 [] else joinK c L k ++ c ++ L.getD k [] from rfl)
      have hj0 : k = 0 → joinK c L k = [] := fun h => by rw [h]; rfl
      have hz0 : k = 0 → L.getD 0 [] = L.getD k [] := fun h => by rw [h]
      have HJ0 := Lib.hid hj0
      have HZ0 := Lib.hid hz0
      clear hj0 hz0
      rw [← S_size] at hb1 hb2
      have HA1 := Lib.hid (S_append (joinK c L k) c)
      have HA2 := Lib.hid (S_append (joinK c L k ++ c) (L.getD k []))
      have HA3 := Lib.hid (S_append (joinK c L k) (L.getD k []))
      generalize L.getD k [] = x at *
      by_cases hk0 : k = 0
      · have HK := Lib.hid hk0
        have d0 : ¬ (0 < k) := by omega
        clear hk0
        go_wp2
        go_round
        case rel =>
          refine ⟨k + 1, by omega, by go_num, ?_⟩
          rw [HJ.out, if_pos HK.out, HA3.out, HJ0.out HK.out, HZ0.out HK.out, List.nil_append]
        case measure => simp [intOf]; omega
      · have d0 : 0 < k := by omega
        go_wp2
        go_round
        case rel =>
          refine ⟨k + 1, by omega, by go_num, ?_⟩
          rw [HJ.out, if_neg hk0, ← HA2.out, ← HA1.out]
        case measure => simp [intOf]; omega
    · obtain rfl : k = n := by omega
      go_wp2
      go_ret
      exact ⟨rfl, rfl⟩
end

section
open Go.RowKit Go.PlainAid
def SP.fl (L : List Fld) : SP := ⟨fun x w => FL x L w, fun _ _ _ h b => h.after b⟩
theorem firstF_at {L : List Fld} {t : List UInt8} {v : Value} {w : World} (h : FL v (fieldsL L t) w) (hl : 0 < (fieldsL L t).length) :
    ∃ g o cap u, v = .slice (some ⟨g, o, none⟩) (fieldsL L t).length cap ∧ w.cell? ⟨g, o, none⟩ = some (.string (S (firstF L t).tag)) ∧ w.cell? ⟨g, o + 1, none⟩ = some (.string (S (firstF L t).ind)) ∧
      w.cell? ⟨g, o + 2, none⟩ = some u ∧ w.cell? ⟨g, o + 3, none⟩ = some (.int .i64 (firstF L t).auth) ∧ QL u (firstF L t).subs w := by
  obtain ⟨g, o, cap, u, h1, h2, h3, h4, h5, h6, h7⟩ := h.at 0 hl
  exact ⟨g, o, cap, u, h1, by simpa [firstF] using h3, by simpa [firstF] using h4, by simpa [firstF] using h5, by simpa [firstF] using h6, h7⟩

set_option maxHeartbeats 8000000 in
theorem refTitle_none (r : Rec) (u : Value) (w : World) (hu : FL u r.fields w) (hs : r.fields.length ≤ 100000) (h0 : (fieldsL r.fields [50, 52, 53]).length = 0) :
    Calls Tryz.prog 28 #[RV r u] w fun e w' => e = .returned (.string (S [])) ∧ Below w.heap.size w w' := by
  have b0 := (Below.refl w.heap.size w).alloc (Nat.le_refl _) (.cells #[.int .i64 r.id, .int .i64 r.ver, .int .i64 r.kind, .string (S r.lang), u] 24)
  have cF := Lib.hid (refFields_any r u _ (hu.after b0) [50, 52, 53] hs)
  have HB0 := Lib.hid b0
  unfold RV at cF ⊢
  obtain ⟨a, cap, rfl, _, _⟩ := hu.length
  clear b0 hu
  have e3 : S [50, 52, 53] = ⟨#[50, 52, 53]⟩ := rfl
  rw [e3] at cF
  generalize r.fields.length = n at *
  generalize S r.lang = lg at *
  go_enter Tryz.func28, Tryz.ntmps28
  go_wp2_with fail
  refine (cF.out).mono ?_
  rintro e w1 ⟨v', rfl, h1, h2⟩
  obtain ⟨a1, c1, rfl, _, _⟩ := h1.length
  rw [h0]
  have b3 := HB0.out.trans (h2.mono HB0.out.size)
  clear h1 h2
  go_wp2
  go_ret
  exact ⟨rfl, b3⟩
set_option maxHeartbeats 8000000 in
theorem refTitle_any (r : Rec) (u : Value) (w : World) (hu : FL u r.fields w) (hs : r.fields.length ≤ 100000) (hsub : ∀ f ∈ r.fields, f.subs.length ≤ 1000 ∧ ∀ i, (f.subs.getD i sub0).2.length ≤ 1000)
    (t : ByteArray) (cC : ∀ W, Calls Tryz.prog 55 #[.string (S (titleL r.fields))] W fun e w' => e = .returned (.string t) ∧ Below W.heap.size W w') (ht : titleL r.fields = [] → t = S []) :
    Calls Tryz.prog 28 #[RV r u] w fun e w' => e = .returned (.string t) ∧ Below w.heap.size w w' := by
  by_cases h0 : (fieldsL r.fields [50, 52, 53]).length = 0
  · have : titleL r.fields = [] := by
      unfold titleL
      rw [firstF_nil _ _ h0]
      rfl
    rw [ht this]
    exact refTitle_none r u w hu hs h0
  have b0 := (Below.refl w.heap.size w).alloc (Nat.le_refl _) (.cells #[.int .i64 r.id, .int .i64 r.ver, .int .i64 r.kind, .string (S r.lang), u] 24)
  have cF := Lib.hid (refFields_any r u _ (hu.after b0) [50, 52, 53] hs)
  have HB0 := Lib.hid b0
  unfold RV at cF ⊢
  obtain ⟨a, cap, rfl, _, _⟩ := hu.length
  clear b0 hu
  have e3 : S [50, 52, 53] = ⟨#[50, 52, 53]⟩ := rfl
  rw [e3] at cF
  have hf : (firstF r.fields [50, 52, 53]).subs.length ≤ 1000 ∧ ∀ i, ((firstF r.fields [50, 52, 53]).subs.getD i sub0).2.length ≤ 1000 := by
    rcases firstF_mem r.fields [50, 52, 53] with h | h
    · rw [h]; simp [fd0, sub0]
    · exact hsub _ h
  have hal : ∀ i, ((allL (firstF r.fields [50, 52, 53]).subs [97, 98]).getD i []).length ≤ 1000000 := allL_small _ _ hf.2
  have cP := Lib.hid (fun x W hq => refPlain_any (firstF r.fields [50, 52, 53]) x W hq [97, 98] (by decide) hf.1 hal)
  have cC := Lib.hid cC
  unfold titleL at cC
  have HAt := Lib.hid (fun v W h => firstF_at (L := r.fields) (t := [50, 52, 53]) (v := v) (w := W) h (by omega))
  unfold FV at cP
  have e2 : S [97, 98] = ⟨#[97, 98]⟩ := rfl
  rw [e2] at cP
  generalize r.fields.length = n at *
  generalize S r.lang = lg at *
  generalize S (plainL (firstF r.fields [50, 52, 53]).subs [97, 98]) = pt at *
  go_enter Tryz.func28, Tryz.ntmps28
  go_wp2_with fail
  refine (cF.out).mono ?_
  rintro e w1 ⟨v', rfl, h1, h2⟩
  have b3 := HB0.out.trans (h2.mono HB0.out.size)
  obtain ⟨g, o, cp, x, rfl, y0, y1, y2, y3, hq⟩ := HAt.out _ _ h1
  have c1 := Lib.hid (cP.out x w1 hq)
  have hx : ∃ ax nx cx, x = .slice ax nx cx := by obtain ⟨ax, cx, rfl, _⟩ := hq; exact ⟨_, _, _, rfl⟩
  obtain ⟨ax, nx, cx, rfl⟩ := hx
  obtain ⟨m, hm⟩ : ∃ m, (fieldsL r.fields [50, 52, 53]).length = m := ⟨_, rfl⟩
  rw [hm] at h0 ⊢
  have d0 : decide ((m : Int) = 0) = false := decide_eq_false (by omega)
  have d1 : ((m : Int) == 0) = false := by simpa using h0
  have d2 : (0 : Int) < (m : Int) := by omega
  have HB3 := Lib.hid b3
  clear h1 h2 b3 hm hq HAt
  generalize S (firstF r.fields [50, 52, 53]).tag = t0 at *
  generalize S (firstF r.fields [50, 52, 53]).ind = t1 at *
  generalize (firstF r.fields [50, 52, 53]).auth = t3 at *
  go_wp2_with fail
  refine (c1.out).mono ?_
  rintro e w2 ⟨rfl, h2⟩
  have HB4 := Lib.hid (HB3.out.trans (h2.mono HB3.out.size))
  clear h2
  go_wp2_with fail
  refine (cC.out w2).mono ?_
  rintro e w3 ⟨rfl, h2⟩
  have b5 := HB4.out.trans (h2.mono HB4.out.size)
  go_wp2
  go_ret
  exact ⟨rfl, b5⟩
end

section
open Go.RowKit Go.PlainAid
theorem fld_cells {w : World} {b : Nat} {c0 c1 c2 c3 : Value} (h : w.heap[b]? = some (.cells #[c0, c1, c2, c3] 35 (0, 0))) :
    (w.cell? ⟨b, 0, none⟩ = some c0 ∧ w.cell? ⟨b, 1, none⟩ = some c1 ∧ w.cell? ⟨b, 2, none⟩ = some c2 ∧ w.cell? ⟨b, 3, none⟩ = some c3) ∧
    (w.frozen? ⟨b, 0, none⟩ = false ∧ w.frozen? ⟨b, 1, none⟩ = false ∧ w.frozen? ⟨b, 2, none⟩ = false ∧ w.frozen? ⟨b, 3, none⟩ = false) := by
  refine ⟨⟨?_, ?_, ?_, ?_⟩, Lib.frozen_of_heap h 0, Lib.frozen_of_heap h 1, Lib.frozen_of_heap h 2, Lib.frozen_of_heap h 3⟩
  · rw [Lib.cell_of_heap h]; rfl
  · rw [Lib.cell_of_heap h]; rfl
  · rw [Lib.cell_of_heap h]; rfl
  · rw [Lib.cell_of_heap h]; rfl
theorem fld_set {w : World} {b : Nat} {c0 c1 c2 c3 x0 x1 x2 x3 : Value} (h : w.heap[b]? = some (.cells #[c0, c1, c2, c3] 35 (0, 0))) :
    ((((w.setCell ⟨b, 0, none⟩ x0).setCell ⟨b, 1, none⟩ x1).setCell ⟨b, 2, none⟩ x2).setCell ⟨b, 3, none⟩ x3).heap[b]? = some (.cells #[x0, x1, x2, x3] 35 (0, 0)) := by
  simp [World.setCell, Array.getElem?_modify, h]
theorem fld_below {w0 w : World} {b B : Nat} (h : Below B w0 w) (hb : B ≤ b) (x0 x1 x2 x3 : Value) :
    Below B w0 ((((w.setCell ⟨b, 0, none⟩ x0).setCell ⟨b, 1, none⟩ x1).setCell ⟨b, 2, none⟩ x2).setCell ⟨b, 3, none⟩ x3) :=
  (((h.setCell (p := ⟨b, 0, none⟩) hb x0).setCell (p := ⟨b, 1, none⟩) hb x1).setCell (p := ⟨b, 2, none⟩) hb x2).setCell (p := ⟨b, 3, none⟩) hb x3
theorem QL.zero0 (w : World) : QL (.slice none 0 0) [] w := ⟨none, 0, rfl, Nat.le_refl _, Nat.zero_le _, fun _ => rfl, fun i hi => by cases hi⟩

set_option maxHeartbeats 16000000 in
set_option maxRecDepth 100000 in
theorem first_any (r : Rec) (u : Value) (w : World) (hu : FL u r.fields w) (t : List UInt8) (ht : ∀ f ∈ r.fields, f.tag.length = t.length) :
    Calls Tryz.prog 54 #[RV r u, .string (S t)] w fun e w' => ∃ x, e = .returned (FV (firstF r.fields t) x) ∧ QL x (firstF r.fields t).subs w' ∧ Below w.heap.size w w' := by
  have HU := Lib.hid hu
  obtain ⟨a, cap, rfl, hcap, hmax⟩ := hu.length
  unfold maxLen at hmax
  obtain ⟨n, hn⟩ : ∃ n, r.fields.length = n := ⟨_, rfl⟩
  -- the place of the first one
  obtain ⟨J, hJ, hg, hbad⟩ : ∃ J, J ≤ n ∧ (∀ j, j < J → (r.fields.getD j fd0).tag ≠ t) ∧ (J < n → (r.fields.getD J fd0).tag = t) := by
    rcases firstF_cases r.fields t with h | ⟨k, hk, h1, h2⟩
    · exact ⟨n, Nat.le_refl _, fun j hj => h j (by omega), fun h => by omega⟩
    · exact ⟨k, by omega, h1, fun _ => h2⟩
  have hres : firstF r.fields t = if J < n then r.fields.getD J fd0 else fd0 := by
    by_cases h : J < n
    · rw [if_pos h]; exact firstF_hit r.fields t ht J (by omega) hg (hbad h)
    · rw [if_neg h]; exact firstF_miss r.fields t ht (fun j hj => hg j (by omega))
  rw [hn] at hcap HU ⊢
  have HN := Lib.hid hn
  have HG := Lib.hid hg
  have HBad := Lib.hid hbad
  obtain ⟨ff, hff⟩ : ∃ ff, firstF r.fields t = ff := ⟨_, rfl⟩
  rw [hff] at hres ⊢
  have HRes := Lib.hid hres
  unfold RV FV
  obtain ⟨W0, hW0⟩ : ∃ W0, (w.alloc (.cells #[.int .i64 r.id, .int .i64 r.ver, .int .i64 r.kind, .string (S r.lang), .slice a n cap] 24)).alloc (.cells #[.string ⟨#[]⟩, .string ⟨#[]⟩, .slice none 0 0, .int .i64 0] 35) = W0 := ⟨_, rfl⟩
  have b0 : Below w.heap.size w W0 := by rw [← hW0]; exact ((Below.refl w.heap.size w).alloc (Nat.le_refl _) _).alloc (by simp) _
  have hF : W0.heap[w.heap.size]? = some (.cells #[.int .i64 r.id, .int .i64 r.ver, .int .i64 r.kind, .string (S r.lang), .slice a n cap] 24 (0, 0)) := by
    rw [← hW0]
    exact (Below.heap_alloc _ _ _ (by simp)).trans (heap_alloc_new w _)
  have hR : W0.heap[w.heap.size + 1]? = some (.cells #[.string ⟨#[]⟩, .string ⟨#[]⟩, .slice none 0 0, .int .i64 0] 35 (0, 0)) := by
    rw [← hW0]
    have := heap_alloc_new (w.alloc (.cells #[.int .i64 r.id, .int .i64 r.ver, .int .i64 r.kind, .string (S r.lang), .slice a n cap] 24)) (.cells #[.string ⟨#[]⟩, .string ⟨#[]⟩, .slice none 0 0, .int .i64 0] 35)
    simpa using this
  have hsz0 : W0.heap.size = w.heap.size + 2 := by rw [← hW0]; simp
  have HW0 := Lib.hid hW0
  have HUw := Lib.hid HU.out
  have HB0 := Lib.hid b0
  have HR := Lib.hid hR
  have hlt1 : w.heap.size + 1 < W0.heap.size := by omega
  obtain ⟨⟨_, _, _, _, k4⟩, _⟩ := rec_cells hF
  clear hn hW0 hu HU hg hbad hres hF hR b0 hff ht
  generalize S r.lang = lg at *
  go_enter Tryz.func54, Tryz.ntmps54
  go_upto_region 1 with fail
  rw [HW0.out]
  go_wp2
  go_loopw [10] (fun i wr => ∃ k : Nat, k ≤ J ∧ i = .int .i64 (k : Int) ∧ Below W0.heap.size W0 wr) (fun i _ => n - (intOf i).toNat)
  case atStart => exact ⟨0, Nat.zero_le _, rfl, Below.refl _ _⟩
  case round =>
    obtain ⟨k, hk, rfl, hbw⟩ := hrel
    have HBw0 := Lib.hid (HB0.out.trans (hbw.mono HB0.out.size))
    have HBw := Lib.hid hbw
    by_cases hkn : k < n
    · obtain ⟨g, o, cap', x, he, hg, c0, c1, c2, c3, hq⟩ := HUw.out.at k (by rw [HN.out]; exact hkn)
      have c0 := (HBw0.out.cell (p := ⟨g, o + k * 4, none⟩) hg).trans c0
      have c1 := (HBw0.out.cell (p := ⟨g, o + k * 4 + 1, none⟩) hg).trans c1
      have c2 := (HBw0.out.cell (p := ⟨g, o + k * 4 + 2, none⟩) hg).trans c2
      have c3 := (HBw0.out.cell (p := ⟨g, o + k * 4 + 3, none⟩) hg).trans c3
      obtain ⟨ha, -, hcp⟩ := Value.slice.inj he
      subst ha hcp
      clear he
      obtain ⟨ax, nx, cx, hx⟩ : ∃ ax nx cx, x = .slice ax nx cx := by obtain ⟨ax, cx, rfl, _⟩ := hq; exact ⟨_, _, _, rfl⟩
      subst hx
      have i1 : (0 : Int) ≤ (k : Int) := by omega
      have i2 : (k : Int) < (n : Int) := by omega
      obtain ⟨y, hy⟩ : ∃ y, r.fields.getD k fd0 = y := ⟨_, rfl⟩
      rw [hy] at c0 c1 c3 hq
      obtain ⟨wa, hwa⟩ : ∃ wa, wr.alloc (.cells #[.string (S y.tag), .string (S y.ind), .slice ax nx cx, .int .i64 y.auth] 35) = wa := ⟨_, rfl⟩
      have ba : Below wr.heap.size wr wa := by rw [← hwa]; exact (Below.refl _ _).alloc (Nat.le_refl _) _
      have y0 : wa.cell? ⟨wr.heap.size, 0, none⟩ = some (.string (S y.tag)) := by rw [← hwa]; simp
      have y1 : wa.cell? ⟨wr.heap.size, 1, none⟩ = some (.string (S y.ind)) := by rw [← hwa]; simp
      have y2 : wa.cell? ⟨wr.heap.size, 2, none⟩ = some (.slice ax nx cx) := by rw [← hwa]; simp
      have y3 : wa.cell? ⟨wr.heap.size, 3, none⟩ = some (.int .i64 y.auth) := by rw [← hwa]; simp
      have HWA := Lib.hid hwa
      have HBa := Lib.hid (hbw.trans (ba.mono hbw.size))
      have hte := S_eq y.tag t
      by_cases hlt : k < J
      · have hne : y.tag ≠ t := by rw [← hy]; exact HG.out k hlt
        rw [decide_eq_false hne] at hte
        clear hy hbw hq ba hwa hne
        generalize S y.tag = t0 at *
        generalize S y.ind = t1 at *
        generalize y.auth = t3 at *
        generalize S t = ts at *
        go_upto_region 4 with fail
        rw [HWA.out]
        go_wp2
        go_roundw
        case rel => exact ⟨k + 1, by omega, by go_num, HBa.out⟩
        case measure => simp [intOf]; omega
      · obtain rfl : k = J := by omega
        have hEq : y.tag = t := by rw [← hy]; exact HBad.out hkn
        have hffy : ff = y := by rw [HRes.out, if_pos hkn, hy]
        rw [decide_eq_true hEq] at hte
        have hRa := (HBa.out.block _ hlt1).trans HR.out
        obtain ⟨⟨r0, r1, r2, r3⟩, g0, g1, g2, g3⟩ := fld_cells hRa
        have hfin := Lib.hid (fld_set (x0 := .string (S y.tag)) (x1 := .string (S y.ind)) (x2 := .slice ax nx cx) (x3 := .int .i64 y.auth) hRa)
        have Fin := Lib.hid (fld_below (b := w.heap.size + 1) (HB0.out.trans (HBa.out.mono HB0.out.size)) (Nat.le_succ _) (.string (S y.tag)) (.string (S y.ind)) (.slice ax nx cx) (.int .i64 y.auth))
        have HQ := Lib.hid hq
        subst hffy
        clear hy hbw hq ba hwa hRa hEq
        generalize hE0 : S ff.tag = t0 at *
        generalize hE1 : S ff.ind = t1 at *
        generalize hE3 : ff.auth = t3 at *
        generalize S t = ts at *
        go_upto_region 4 with fail
        rw [HWA.out]
        go_wp2
        (try simp only [Exit.inBlock, Exit.then])
        refine bodyPost_ret (results_cell_row rfl _ _ (w.heap.size + 1) _ _ _ _ rfl hfin.out Tryz.underlying35 rfl (by kernel_rfl)) rfl ?_
        exact ⟨_, by rw [hE0, hE1, hE3], HQ.out.after Fin.out, Fin.out⟩
    · obtain rfl : k = n := by omega
      obtain rfl : J = k := by omega
      have hffy : ff = fd0 := by rw [HRes.out, if_neg (by omega)]
      have hRa := (hbw.block _ hlt1).trans HR.out
      obtain ⟨⟨r0, r1, r2, r3⟩, g0, g1, g2, g3⟩ := fld_cells hRa
      have hfin := Lib.hid (fld_set (x0 := .string ⟨#[]⟩) (x1 := .string ⟨#[]⟩) (x2 := .slice none 0 0) (x3 := .int .i64 0) hRa)
      have Fin := Lib.hid (fld_below (b := w.heap.size + 1) HBw0.out (Nat.le_succ _) (.string ⟨#[]⟩) (.string ⟨#[]⟩) (.slice none 0 0) (.int .i64 0))
      subst hffy
      clear hbw hRa
      go_wp2
      (try simp only [Exit.inBlock, Exit.then])
      refine bodyPost_ret (results_cell_row rfl _ _ (w.heap.size + 1) _ _ _ _ rfl hfin.out Tryz.underlying35 rfl (by kernel_rfl)) rfl ?_
      exact ⟨.slice none 0 0, rfl, QL.zero0 _, Fin.out⟩
end

end Go.Proofs.YtcnjjdbpcobolaaGreatDoor
