/- Merged: PY08, PV08, AppZ. -/
import Derived.Test.YtcnjjdbpcobolaaGreatDoorQ20
import Derived.Test.YtcnjjdbpcobolaaGreatDoorQ21
import Derived.Test.YtcnjjdbpcobolaaGreatDoorQ12
import Derived.Shelf.GgClosure.GivesRunes
import Derived.Test.YtcnjjdbpcobolaaGreatDoorQ04
import Derived.Laws.AppendOwn
namespace Go.Proofs.YtcnjjdbpcobolaaGreatDoor

section
open Go.RowKit Go.PlainAid
theorem noDigit_any (c : Nat) (w : World) : Calls Tryz.prog 93 #[.int .i32 (c : Int)] w fun e w' => e = .returned (.bool (!digc c)) ∧ w' = w := by
  unfold digc
  by_cases h1 : c < 48
  · have d0 : decide ((c : Int) < 48) = true := decide_eq_true (by omega)
    have d1 : decide (48 ≤ c) = false := decide_eq_false (by omega)
    rw [d1]
    clear h1 d1
    go_enter Tryz.func93, Tryz.ntmps93
    go_wp2
    go_ret
    exact ⟨rfl, rfl⟩
  · have d0 : decide ((c : Int) < 48) = false := decide_eq_false (by omega)
    have d1 : decide (48 ≤ c) = true := decide_eq_true (by omega)
    rw [d1]
    by_cases h2 : c ≤ 57
    · have d2 : decide (57 < (c : Int)) = false := decide_eq_false (by omega)
      rw [decide_eq_true h2]
      clear h1 d1 h2
      go_enter Tryz.func93, Tryz.ntmps93
      go_wp2
      go_ret
      exact ⟨rfl, rfl⟩
    · have d2 : decide (57 < (c : Int)) = true := decide_eq_true (by omega)
      rw [decide_eq_false h2]
      clear h1 d1 h2
      go_enter Tryz.func93, Tryz.ntmps93
      go_wp2
      go_ret
      exact ⟨rfl, rfl⟩
theorem noDigit_pred (w : World) : PredAtRunes Tryz.prog 93 #[] (fun c => !digc c) w := by
  intro W x _ _
  exact (noDigit_any x W).mono fun e w' ⟨h1, h2⟩ => ⟨h1, 0, h2⟩
theorem dfields_any (fs : List Nat) (h : OKs fs) (hz : fs.length ≤ 1000000) (w : World) :
    Calls Tryz.prog 92 #[.string (T fs), .func (.func 93) #[] #[]] w fun e w' => ∃ A, e = .returned (.slice (some ⟨A, 0, none⟩) (dwords fs).length (dwords fs).length) ∧ A < w'.heap.size ∧
      (∀ j, j < (dwords fs).length → w'.cell? ⟨A, j, none⟩ = some (.string (T ((dwords fs).getD j [])))) ∧ Below w.heap.size w w' := by
  have hsz := T_bound fs
  have hF := Tryz.strings_FieldsFunc_runes 93 #[] (enters_of Tryz.func93 (by kernel_rfl) rfl) (fun c => !digc c) (T fs) w (by omega) (noDigit_pred w)
  rw [dfields_T fs h (fun c => !digc c) (fun c _ => rfl)] at hF
  refine hF.mono ?_
  rintro e w' ⟨A, rfl, hA, hown, hb⟩
  rw [List.length_map] at hown ⊢
  refine ⟨A, rfl, ?_, ?_, hb⟩
  · rcases hown.2 with ⟨h0, _⟩ | ⟨g, cap, cur, hv, _, hg, _⟩
    · cases h0
    · have e1 : A = g := by have h := hv; simp at h; exact h.1
      subst e1
      exact (Array.getElem?_eq_some_iff.1 hg).1
  · intro j hj
    have := hown.cells (g := A) rfl j (.string (T ((dwords fs).getD j []))) (by rw [List.getElem?_map, List.getElem?_map, List.getD_eq_getElem?_getD, List.getElem?_eq_getElem hj]; rfl)
    have hadd : (⟨A, 0, none⟩ : Addr).add j = ⟨A, j, none⟩ := by unfold Addr.add; split <;> simp_all
    rwa [hadd] at this

set_option maxHeartbeats 8000000 in
set_option maxRecDepth 100000 in
theorem yearIn_any (fs : List Nat) (h : OKs fs) (hz : fs.length ≤ 1000000) (w : World) (hE : Env w) :
    Calls Tryz.prog 60 #[.string (T fs)] w fun e w' => e = .returned (.int .i64 (firstI yvC (dwords fs))) ∧ Below w.heap.size w w' := by
  have hF := Lib.hid (dfields_any fs h hz w)
  have hdl := dwords_len fs
  have hdg := Lib.hid (dwords_dig fs)
  obtain ⟨y, hy⟩ : ∃ y, firstI yvC (dwords fs) = y := ⟨_, rfl⟩
  have HHit := Lib.hid (fun k h1 h2 h3 => (firstI_hit ([] : List Nat) yvC (dwords fs) k h1 h2 h3).symm.trans hy)
  have HMiss := Lib.hid (fun h2 => (firstI_miss ([] : List Nat) yvC (dwords fs) h2).symm.trans hy)
  rw [hy]
  have HE := Lib.hid hE
  clear h hy hE
  generalize dwords fs = ws at *
  obtain ⟨n, hn⟩ : ∃ n, ws.length = n := ⟨_, rfl⟩
  rw [hn] at hF hdl
  have HN := Lib.hid hn
  clear hn
  go_enter Tryz.func60, Tryz.ntmps60
  go_wp2_with fail
  refine hF.out.mono ?_
  rintro e w1 ⟨A, rfl, hA, hc, b1⟩
  have HC := Lib.hid hc
  have HB1 := Lib.hid b1
  clear hF hc b1
  go_wp2
  go_loopw [10] (fun i wr => ∃ k : Nat, k ≤ n ∧ i = .int .i64 (k : Int) ∧ RowKit.Hid (∀ j, j < k → yvC (ws.getD j []) = 0) ∧ Below w1.heap.size w1 wr) (fun i _ => n - (intOf i).toNat)
  case atStart => exact ⟨0, Nat.zero_le _, rfl, (fun j hj => by omega), Below.refl _ _⟩
  case round =>
    obtain ⟨k, hk, rfl, hj, hbw⟩ := hrel
    have HBw := Lib.hid (HB1.out.trans (hbw.mono HB1.out.size))
    have HBw1 := Lib.hid hbw
    by_cases hkn : k < n
    · have c0 := (hbw.cell (p := ⟨A, k, none⟩) hA).trans (HC.out k hkn)
      obtain ⟨x, hx⟩ : ∃ x, ws.getD k [] = x := ⟨_, rfl⟩
      have hxd : ∀ c ∈ x, digc c = true := by
        rw [← hx, List.getD_eq_getElem?_getD, List.getElem?_eq_getElem (by rw [HN.out]; exact hkn)]
        exact hdg.out _ (List.getElem_mem _)
      have hts : (T x).size = x.length := by
        have := T_list x
        rw [enc_digs x hxd] at this
        have h2 := congrArg List.length this
        rw [List.length_map] at h2
        rw [← h2]
        rfl
      have i1 : (0 : Int) ≤ (k : Int) := by omega
      have i2 : (k : Int) < (n : Int) := by omega
      have HNo : RowKit.Hid (yvC x = 0 → ∀ j, j < k + 1 → yvC (ws.getD j []) = 0) := by
        intro h0 j hj2
        rcases Nat.lt_or_ge j k with h | h
        · exact hj.out j h
        · rw [show j = k by omega, hx]; exact h0
      have HYes : RowKit.Hid (yvC x ≠ 0 → yvC x = y) := by
        intro h0
        have := HHit.out k (by rw [HN.out]; exact hkn) hj.out (by rw [hx]; exact h0)
        rwa [hx] at this
      rw [hx] at c0
      clear hx hj hbw
      by_cases h4 : x.length = 4
      · obtain ⟨r1, r2, r3⟩ := run_year x hxd h4
        have d0 : decide ((((T x).size : Nat) : Int) = 4) = true := decide_eq_true (by rw [hts]; omega)
        have d1 : ((((T x).size : Nat) : Int) == 4) = true := by rw [hts]; simpa using (show ((x.length : Int) = 4) by omega)
        have hTl : T x = S (enc x) := rfl
        have cA := Lib.hid (cAtoi (enc x) (by have h3 := congrArg List.length (T_list x); have h4 : (T x).data.toList.length = (T x).size := rfl; omega) wr (HE.out.after HBw.out))
        rw [r3, ← hTl] at cA
        have hyv : yvC x = if (decide (1000 ≤ (runC x).1) && decide ((runC x).1 ≤ 2199)) = true then ((runC x).1 : Int) else 0 := by
          unfold yvC yearOK
          rw [h4]
          by_cases g1 : 1000 ≤ (runC x).1 <;> by_cases g2 : (runC x).1 ≤ 2199 <;> simp [g1, g2]
        have hpos : (decide (1000 ≤ (runC x).1) && decide ((runC x).1 ≤ 2199)) = true → yvC x ≠ 0 := by
          intro g
          rw [hyv, if_pos g]
          rw [Bool.and_eq_true, decide_eq_true_iff] at g
          omega
        rw [← r1, ← r2] at hyv hpos
        rw [← T_list x, ← ByteArray.toList_eq] at hyv hpos
        obtain ⟨b1, p1⟩ : ∃ b, Op.bytesLess [49, 48, 48, 48] (T x).toList = b := ⟨_, rfl⟩
        obtain ⟨b2, p2⟩ : ∃ b, (([49, 48, 48, 48] : List UInt8) == (T x).toList) = b := ⟨_, rfl⟩
        obtain ⟨c1, q1⟩ : ∃ b, Op.bytesLess (T x).toList [50, 49, 57, 57] = b := ⟨_, rfl⟩
        obtain ⟨c2, q2⟩ : ∃ b, ((T x).toList == ([50, 49, 57, 57] : List UInt8)) = b := ⟨_, rfl⟩
        rw [p1, p2, q1, q2] at hyv hpos
        have HZ : RowKit.Hid (((b1 || b2) && (c1 || c2)) = false → ∀ j, j < k + 1 → yvC (ws.getD j []) = 0) := fun g => HNo.out (by rw [hyv, g]; rfl)
        have HV : RowKit.Hid (((b1 || b2) && (c1 || c2)) = true → ((runC x).1 : Int) = y) := fun g => by
          have := HYes.out (hpos g)
          rwa [hyv, g, if_pos rfl] at this
        clear hxd hTl hts r1 r2 r3 hyv hpos HNo HYes
        obtain ⟨v, hv⟩ : ∃ v : Int, ((runC x).1 : Int) = v := ⟨_, rfl⟩
        rw [hv] at cA HV
        clear hv
        generalize T x = t at *
        cases b1 <;> cases b2 <;> cases c1 <;> cases c2
        all_goals first
          | have HS := Lib.hid (HZ.out rfl)
            go_wp2_with fail
            go_roundw
            case rel => exact ⟨k + 1, by omega, by go_num, HS, HBw1.out⟩
            case measure => simp [intOf]; omega
          | have hvy := HV.out rfl
            subst hvy
            go_wp2_with fail
            refine (cA.out).mono ?_
            rintro e w2 ⟨er, rfl, b2⟩
            have HB2 := Lib.hid (HBw.out.trans (b2.mono HBw.out.size))
            clear b2
            go_wp2_with fail
            go_ret
            exact ⟨rfl, HB2.out⟩
      · have h0 : yvC x = 0 := by unfold yvC yearOK; rw [if_neg (fun g => h4 g.1)]
        have HS := Lib.hid (HNo.out h0)
        have d0 : decide ((((T x).size : Nat) : Int) = 4) = false := decide_eq_false (by rw [hts]; omega)
        have d1 : ((((T x).size : Nat) : Int) == 4) = false := by rw [hts]; simpa using (show ¬ ((x.length : Int) = 4) by omega)
        clear HNo HYes h0 h4 hts hxd
        generalize T x = t at *
        go_wp2
        go_roundw
        case rel => exact ⟨k + 1, by omega, by go_num, HS, HBw1.out⟩
        case measure => simp [intOf]; omega
    · obtain rfl : k = n := by omega
      have hr := HMiss.out (fun j hj2 => hj.out j (by rw [HN.out] at hj2; exact hj2))
      subst hr
      go_wp2
      go_ret
      exact ⟨rfl, HBw.out⟩
end

section
open Go.RowKit Go.PlainAid
theorem yearIn_is (l : List UInt8) (hl : ∃ cs, OKs cs ∧ l = enc cs) (hz : l.length ≤ 1000000) (w : World) (hE : Env w) :
    Calls Tryz.prog 60 #[.string (S l)] w fun e w' => e = .returned (.int .i64 (yearB l 0 0)) ∧ Below w.heap.size w w' := by
  obtain ⟨cs, h1, rfl⟩ := hl
  have h2 := len_le cs
  have h3 : (T cs).size = (enc cs).length := rfl
  have := yearIn_any cs h1 (by omega) w hE
  rw [← yearB_words cs h1] at this
  exact this

set_option maxHeartbeats 16000000 in
set_option maxRecDepth 100000 in
theorem pYear_any (r : Rec) (u : Value) (w : World) (hE : Env w) (hu : FL u r.fields w) (hsub : ∀ f ∈ r.fields, f.subs.length ≤ 1000 ∧ ∀ i, (f.subs.getD i sub0).2.length ≤ 1000) (hok : ∀ f ∈ r.fields, ∀ v ∈ allL f.subs [99], ∃ cs, OKs cs ∧ v = enc cs) :
    Calls Tryz.prog 31 #[RV r u] w fun e w' => e = .returned (.int .i64 (yearR r.fields)) ∧ Below w.heap.size w w' := by
  obtain ⟨a, cap, rfl, hcap, hmax⟩ := hu.length
  unfold maxLen at hmax
  have hsubk : ∀ k, k < r.fields.length → ((r.fields.getD k fd0).subs.length ≤ 1000 ∧ ∀ i, ((r.fields.getD k fd0).subs.getD i sub0).2.length ≤ 1000) ∧ ∀ v ∈ allL (r.fields.getD k fd0).subs [99], ∃ cs, OKs cs ∧ v = enc cs := by
    intro k hk
    rw [List.getD_eq_getElem?_getD, List.getElem?_eq_getElem hk]
    exact ⟨hsub _ (List.getElem_mem hk), hok _ (List.getElem_mem hk)⟩
  have HHit := Lib.hid (firstI_hit fd0 yearF r.fields)
  have HMiss := Lib.hid (firstI_miss fd0 yearF r.fields)
  have cA := Lib.hid (fun (f : Fld) x W hq h => fAll_any f x W hq [99] h)
  have cY := Lib.hid (fun l h W hE hz => yearIn_is l h hz W hE)
  unfold RV
  unfold FV at cA
  have e99 : S [99] = ⟨#[99]⟩ := rfl
  rw [e99] at cA
  obtain ⟨n, hn⟩ : ∃ n, r.fields.length = n := ⟨_, rfl⟩
  have HU := Lib.hid hu
  have HSub := Lib.hid hsubk
  rw [hn] at hcap HU HSub HHit HMiss ⊢
  have HN := Lib.hid hn
  obtain ⟨W0, hW0⟩ : ∃ W0, w.alloc (.cells #[.int .i64 r.id, .int .i64 r.ver, .int .i64 r.kind, .string (S r.lang), .slice a n cap] 24) = W0 := ⟨_, rfl⟩
  have b0 : Below w.heap.size w W0 := by rw [← hW0]; exact (Below.refl w.heap.size w).alloc (Nat.le_refl _) _
  have hlt : w.heap.size < W0.heap.size := by rw [← hW0]; simp
  have k4 : W0.cell? ⟨w.heap.size, 4, none⟩ = some (.slice a n cap) := by rw [← hW0]; simp
  have HW0 := Lib.hid hW0
  have HU0 := Lib.hid (HU.out.after b0)
  have HB0 := Lib.hid b0
  have HE0 := Lib.hid (hE.after b0)
  clear hn hW0 hu HU hsubk hsub b0 hE hok
  generalize S r.lang = lg at *
  go_enter Tryz.func31, Tryz.ntmps31
  go_upto_region 1 with fail
  rw [HW0.out]
  go_wp2
  go_loopw [11] (fun i wr => ∃ k : Nat, k ≤ n ∧ i = .int .i64 (k : Int) ∧ RowKit.Hid (∀ j, j < k → yearF (r.fields.getD j fd0) = 0) ∧ Below W0.heap.size W0 wr) (fun i _ => n - (intOf i).toNat)
  case atStart => exact ⟨0, Nat.zero_le _, rfl, (fun j hj => by omega), Below.refl _ _⟩
  case round =>
    obtain ⟨k, hk, rfl, hz, hbw⟩ := hrel
    by_cases hkn : k < n
    · obtain ⟨g, o, cap', x, he, hg, c0, c1, c2, c3, hq⟩ := (HU0.out.after hbw).at k (by rw [HN.out]; exact hkn)
      obtain ⟨ha, -, hcp⟩ := Value.slice.inj he
      subst ha hcp
      clear he
      have i1 : (0 : Int) ≤ (k : Int) := by omega
      have i2 : (k : Int) < (n : Int) := by omega
      have HS1 := Lib.hid (HSub.out k hkn)
      obtain ⟨f, hf⟩ : ∃ f, r.fields.getD k fd0 = f := ⟨_, rfl⟩
      rw [hf] at c0 c1 c3 hq HS1
      have HNext : RowKit.Hid (yearF f = 0 → ∀ j, j < k + 1 → yearF (r.fields.getD j fd0) = 0) := by
        intro h j hj
        rcases Nat.lt_or_ge j k with h1 | h1
        · exact hz.out j h1
        · obtain rfl : j = k := by omega
          rw [hf]
          exact h
      have HHitk : RowKit.Hid (yearF f ≠ 0 → yearR r.fields = yearF f) := by
        intro h
        have := HHit.out k hkn hz.out
        rw [hf] at this
        exact this h
      clear hf hz
      obtain ⟨ax, nx, cx, hx⟩ : ∃ ax nx cx, x = .slice ax nx cx := by obtain ⟨ax, cx, rfl, _⟩ := hq; exact ⟨_, _, _, rfl⟩
      subst hx
      obtain ⟨wa, hwa⟩ : ∃ wa, wr.alloc (.cells #[.string (S f.tag), .string (S f.ind), .slice ax nx cx, .int .i64 f.auth] 35) = wa := ⟨_, rfl⟩
      have ba : Below wr.heap.size wr wa := by rw [← hwa]; exact (Below.refl _ _).alloc (Nat.le_refl _) _
      have y0 : wa.cell? ⟨wr.heap.size, 0, none⟩ = some (.string (S f.tag)) := by rw [← hwa]; simp
      have y1 : wa.cell? ⟨wr.heap.size, 1, none⟩ = some (.string (S f.ind)) := by rw [← hwa]; simp
      have y2 : wa.cell? ⟨wr.heap.size, 2, none⟩ = some (.slice ax nx cx) := by rw [← hwa]; simp
      have y3 : wa.cell? ⟨wr.heap.size, 3, none⟩ = some (.int .i64 f.auth) := by rw [← hwa]; simp
      have HWA := Lib.hid hwa
      have HBa := Lib.hid (hbw.trans (ba.mono hbw.size))
      have hqa := hq.after ba
      by_cases hy : ytagB f.tag = true
      · have hyf : yearF f = yearsV f := by unfold yearF; rw [if_pos hy]
        rw [hyf] at HNext HHitk
        have hor : ((S f.tag).toList == [50, 54, 48]) = true ∨ (((S f.tag).toList == [50, 54, 48]) = false ∧ ((S f.tag).toList == [50, 54, 52]) = true) := by
          rw [tag_eq, tag_eq]
          unfold ytagB at hy
          by_cases h1 : f.tag = [50, 54, 48]
          · exact .inl (by simp [h1])
          · have h2 : f.tag = [50, 54, 52] := by simpa [h1] using hy
            exact .inr ⟨by simp [h1], by simp [h2]⟩
        have hle := allL_length f.subs [99]
        have hsm := allL_small f.subs [99] HS1.out.1.2
        have HHit2 := Lib.hid (firstI_hit [] (fun v => yearB v 0 0) (allL f.subs [99]))
        have HMiss2 := Lib.hid (firstI_miss [] (fun v => yearB v 0 0) (allL f.subs [99]))
        have HPos := Lib.hid (fun v => (yearB_range v 0 0).1)
        have c1' := Lib.hid (cA.out f (.slice ax nx cx) wa hqa (by have := HS1.out.1.1; omega))
        have hv : yearsV f = firstI (fun v => yearB v 0 0) (allL f.subs [99]) := rfl
        rw [hv] at HNext HHitk
        have hm0 : (allL f.subs [99]).length ≤ 1000 := Nat.le_trans hle HS1.out.1.1
        have HOk := Lib.hid HS1.out.2
        generalize allL f.subs [99] = M at *
        have HSm := Lib.hid hsm
        clear hyf hy hbw hq hqa hle hsm hv HS1 hwa ba
        generalize S f.tag = t0 at *
        generalize S f.ind = t1 at *
        generalize f.auth = t3 at *
        rcases hor with e1 | ⟨e1, e2⟩
        all_goals
          go_upto_region 4 with fail
          rw [HWA.out]
          go_wp2_with fail
          refine (c1'.out).mono ?_
          rintro e w2 ⟨v', rfl, h1, h2⟩
          have HB2 := Lib.hid (HBa.out.trans (h2.mono HBa.out.size))
          have HBl := Lib.hid h1
          obtain ⟨a2, cap2, rfl, hc2, hm2, _, _⟩ := h1
          unfold maxLen at hm2
          obtain ⟨m, hm⟩ : ∃ m, M.length = m := ⟨_, rfl⟩
          rw [hm] at HHit2 HMiss2 HBl hc2 hm0 ⊢
          have HM := Lib.hid hm
          clear h2 hm c0 c1 c2 c3 y0 y1 y2 y3
          obtain ⟨wo, rfl⟩ : ∃ wo : World, wo = wr := ⟨_, rfl⟩
          go_wp2
          go_loopw [26] (fun p wr => ∃ q : Nat, q ≤ m ∧ p = .int .i64 (q : Int) ∧ RowKit.Hid (∀ j, j < q → yearB (M.getD j []) 0 0 = 0) ∧ Below w2.heap.size w2 wr) (fun p _ => m - (intOf p).toNat)
          case atStart => exact ⟨0, Nat.zero_le _, rfl, (fun j hj => by omega), Below.refl _ _⟩
          case round =>
            obtain ⟨q, hq, rfl, hzz, hbq⟩ := hrel
            have HBq := Lib.hid (HB2.out.trans (hbq.mono HB2.out.size))
            have HBq1 := Lib.hid hbq
            by_cases hqm : q < m
            · obtain ⟨_, _, he, _, _, _, hcc⟩ := HBl.out.after hbq
              obtain ⟨ga, oa, hea, hga, y0⟩ := hcc q (by rw [HM.out]; exact hqm)
              obtain ⟨h1, -, -⟩ := Value.slice.inj he
              rw [← h1] at hea
              subst hea
              clear he hcc h1 hbq
              have i3 : (0 : Int) ≤ (q : Int) := by omega
              have i4 : (q : Int) < (m : Int) := by omega
              have HS2 := Lib.hid (HSm.out q)
              have HNx2 : RowKit.Hid (yearB (M.getD q []) 0 0 = 0 → ∀ j, j < q + 1 → yearB (M.getD j []) 0 0 = 0) := by
                intro h j hj
                rcases Nat.lt_or_ge j q with h1 | h1
                · exact hzz.out j h1
                · obtain rfl : j = q := by omega
                  exact h
              have HHq := Lib.hid (HHit2.out q hqm hzz.out)
              have HP := Lib.hid (HPos.out (M.getD q []))
              have hmemq : M.getD q [] ∈ M := by
                have h9 : q < M.length := by rw [HM.out]; exact hqm
                rw [List.getD_eq_getElem?_getD, List.getElem?_eq_getElem h9]
                exact List.getElem_mem h9
              have cYq := Lib.hid (cY.out (M.getD q []) (HOk.out _ hmemq) wr (HE0.out.after HBq.out) HS2.out)
              have y1 : wr.cell? ⟨ga, oa + q, none⟩ = some (.string (S (M.getD q []))) := y0
              clear y0 hzz hmemq
              obtain ⟨yv, hyv⟩ : ∃ yv, yearB (M.getD q []) 0 0 = yv := ⟨_, rfl⟩
              rw [hyv] at HNx2 HHq HP cYq
              clear hyv
              generalize S (M.getD q []) = sq at *
              go_wp2_with fail
              refine (cYq.out).mono ?_
              rintro e w3 ⟨rfl, h3⟩
              have HB3 := Lib.hid (HBq1.out.trans (h3.mono HBq1.out.size))
              have HB4 := Lib.hid (HBq.out.trans (h3.mono HBq.out.size))
              clear h3
              by_cases hp : 0 < yv
              · have e5 : decide (yv = 0) = false := decide_eq_false (by omega)
                have e6 : (yv == 0) = false := by simpa using (show ¬ (yv = 0) by omega)
                have hres : yearR r.fields = yv := by
                  have h3 := HHq.out (by omega)
                  rw [HHitk.out (by rw [h3]; omega), h3]
                have HRes := Lib.hid hres
                clear hres
                go_wp2
                go_ret
                rw [HRes.out]
                exact ⟨rfl, HB0.out.trans (HB4.out.mono HB0.out.size)⟩
              · have hy0 : yv = 0 := by have := HP.out; omega
                have HZ2 := Lib.hid (HNx2.out hy0)
                subst hy0
                clear hp
                go_wp2
                go_roundw
                case rel => exact ⟨q + 1, by omega, by go_num, HZ2, HB3.out⟩
                case measure => simp [intOf]; omega
            · obtain rfl : q = m := by omega
              have HNx := Lib.hid (HNext.out (HMiss2.out hzz.out))
              clear hzz
              go_wp2
              go_roundw
              case rel => exact ⟨k + 1, by omega, by go_num, HNx, HBq.out⟩
              case measure => simp [intOf]; omega
      · have hyf : yearF f = 0 := by unfold yearF; rw [if_neg hy]
        have HNx := Lib.hid (HNext.out hyf)
        have e1 : ((S f.tag).toList == [50, 54, 48]) = false := by
          rw [tag_eq]
          unfold ytagB at hy
          have : ¬ f.tag = [50, 54, 48] := fun h => hy (by rw [h]; rfl)
          simp [this]
        have e2 : ((S f.tag).toList == [50, 54, 52]) = false := by
          rw [tag_eq]
          unfold ytagB at hy
          have : ¬ f.tag = [50, 54, 52] := fun h => hy (by rw [h]; rfl)
          simp [this]
        clear hyf hy hbw HNext HHitk hq hqa ba hwa
        generalize S f.tag = t0 at *
        generalize S f.ind = t1 at *
        generalize f.auth = t3 at *
        go_upto_region 4 with fail
        rw [HWA.out]
        go_wp2
        go_roundw
        case rel => exact ⟨k + 1, by omega, by go_num, HNx, HBa.out⟩
        case measure => simp [intOf]; omega
    · obtain rfl : k = n := by omega
      have hres : yearR r.fields = 0 := HMiss.out hz.out
      have HRes := Lib.hid hres
      have Fin := Lib.hid (HB0.out.trans (hbw.mono HB0.out.size))
      clear hbw hz hres
      go_wp2
      go_ret
      rw [HRes.out]
      exact ⟨rfl, Fin.out⟩
end

section
open Go.RowKit
theorem run_append_zero {P : Program} (w : World) (t ty e : TypeId) (i : TypeInfo) (z : Value) (ht : P.underlying t = some (.slice e)) (hi : P.info? e = some i) (hz : i.zero = some z) (b a : Addr) (n c : Nat) (news : List Value) (hl : news.length = n * i.size)
    (hnews : ∀ j v, news[j]? = some v → w.cell? (a.add j) = some v) (hn : 0 < n) (h63 : n ≤ 9223372036854775807) (hb : n * i.bytes ≤ 140737488355328) :
    (Builtin.append_ #[t, t] ty #[.slice (some b) 0 0, .slice (some a) n c]).run P w = (Builtin.append_ #[t, t] ty #[.slice none 0 0, .slice (some a) n c]).run P w := by
  have h1 := run_append_grow (P := P) w t ty e i z ht hi hz b 0 0 [] (by simp) (fun j v h => by simp at h) a n c news hl hnews (by omega) (by omega) (growslice_fits (by omega) (by rw [Nat.zero_add]; exact hb))
  have h2 := run_append_nil (P := P) w t ty e i z ht hi hz a n c news hl hnews hn (by omega) (by omega)
  rw [h1, h2]
  simp

theorem append_str {ops : Array Oper} {rest : List Oper} {o : Oper} {a : Act} {Q : Exit → Act → World → Prop} (w : World) (hgd : o.guard = none) (s x : Operand)
    (ho : o.op = .call { callee := .builtin .append, args := #[s, x], argTypes := #[45, 45] })
    (B : Nat) (v : Value) (L : List (List UInt8)) (hs : a.eval s = v) (hv : ((∃ ad0, v = .slice (some ad0) 0 0) ∧ L = []) ∨ w.ownsRow B 9 1 v L.length (L.map strB)) (ad : Addr) (y : List UInt8) (hx : a.eval x = .slice (some ad) 1 1)
    (hc : ∀ j u, [strB y][j]? = some u → w.cell? (ad.add j) = some u) (hz : L.length ≤ 100000) (hB : B ≤ w.heap.size)
    (h : ∀ v' w', w'.ownsRow B 9 1 v' (L ++ [y]).length ((L ++ [y]).map strB) → Below B w w' → wpList Tryz.prog ops Q rest (a.put o.dst v') w') : wpList Tryz.prog ops Q (o :: rest) a w := by
  obtain ⟨i0, hi, hz0, hz1, hz2⟩ := info_string
  rcases hv with ⟨⟨ad0, rfl⟩, rfl⟩ | hown
  · refine wpList_plain hgd fun K hK => ?_
    obtain ⟨v', w', hr, h2, h3, h4⟩ := run_append_own (P := Tryz.prog) w B 45 o.type 9 i0 (.string ⟨#[]⟩) 1 16 Tryz.underlying45 hi hz0 hz1 hz2 rfl (by decide) (.slice none 0 0) 0 [] (World.ownsRow_nil _ _ _ _) ad 1 1 [strB y] rfl hc (by intro u hu; simp at hu; subst hu; rfl) (by unfold maxLen; omega) (by omega) hB
    have hr' := run_append_zero (P := Tryz.prog) w 45 o.type 9 i0 (.string ⟨#[]⟩) Tryz.underlying45 hi hz0 ad0 ad 1 1 [strB y] (by rw [hz1]; rfl) hc (by omega) (by omega) (by rw [hz2]; omega)
    rw [hr] at hr'
    have h6 : K (a.put o.dst v') w' := hK _ _ (h v' w' h2 ((Below.refl B w).grown h3 hB (fun j hj => by cases hj)))
    unfold Oper.wp execOp
    simp only [ho, resolve, invoke, builtin, Sem.run_bind, Sem.run_pure, Result.andThen_ok, List.map_toArray, List.map_cons, List.map_nil, hs, hx, hr']
    exact h6
  · refine wpList_append_own w hgd s x 45 ho B 9 i0 (.string ⟨#[]⟩) 1 16 Tryz.underlying45 hi hz0 hz1 hz2 rfl (by decide) v L.length (L.map strB) hs hown ad 1 1 [strB y] hx rfl hc (by intro u hu; simp at hu; subst hu; rfl) (by unfold maxLen; omega) (by omega) hB fun v' w' hown' hgrow hnil => ?_
    refine h v' w' ?_ ((Below.refl B w).grown hgrow hB (fun j hj => (hown.lt j hj).1))
    rw [List.length_append, List.map_append]
    exact hown'
end

end Go.Proofs.YtcnjjdbpcobolaaGreatDoor
