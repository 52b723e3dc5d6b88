/- Merged: R08A, R08B, Own2. -/
import Derived.Test.YtceneblmllpdnaaDoorQ08
import Derived.Deep.RegionLaw
import Derived.RegionTactic
import Derived.BigRegion
import Derived.Laws.AppendOwn
import Derived.Below
import Derived.WalkKit
namespace Go.Proofs.YtceneblmllpdnaaDoor

section
open Go.RowKit Go.PlainAid
set_option maxHeartbeats 16000000 in
theorem refSameFields_any (A B : List Fld) (u v : Value) (w : World) (hu : FL u A w) (hv : FL v B w) (b : Bool) (hb : sameFB A B = b) :
    Calls Tryd.prog 34 #[u, v] w fun e w' => e = .returned (.bool b) ∧ Below w.heap.size w w' := by
  have HU := Lib.hid hu
  have HV := Lib.hid hv
  obtain ⟨a, cap, rfl, hcap, hmax⟩ := hu.length
  obtain ⟨a', cap', rfl, hcap', hmax'⟩ := hv.length
  unfold maxLen at hmax hmax'
  have HEq := Lib.hid (sameFB_iff A B)
  have HX := Lib.hid (fields_ext A B)
  generalize sameFB A B = bb at *
  subst hb
  have cS := Lib.hid (fun k x y W hx hy z hz => refSame_any (A.getD k fd0) (B.getD k fd0) x y W hx hy z hz)
  unfold FV at cS
  obtain ⟨n, hn⟩ : ∃ n, A.length = n := ⟨_, rfl⟩
  obtain ⟨m, hm⟩ : ∃ m, B.length = m := ⟨_, rfl⟩
  rw [hn] at hcap HU ⊢
  rw [hm] at hcap' HV ⊢
  have HN := Lib.hid hn
  have HM := Lib.hid hm
  clear hn hm hu hv
  by_cases hnm : n ≠ m
  · have t : ((n : Int) != (m : Int)) = true := by simp; omega
    obtain rfl : bb = false := by
      cases h : bb
      · rfl
      · exact absurd (HEq.out.1 h) (fun e => hnm (by rw [← HN.out, ← HM.out, e]))
    clear hnm
    go_enter Tryd.func34, Tryd.ntmps34
    go_wp2
    go_ret
    exact ⟨rfl, Below.refl _ _⟩
  obtain rfl : n = m := Decidable.not_not.1 hnm
  have t : ((n : Int) != (n : Int)) = false := by simp
  clear hnm
  go_enter Tryd.func34, Tryd.ntmps34
  go_wp2
  go_loopw [5] (fun i wr => ∃ k : Nat, k ≤ n ∧ i = .int .i64 (k : Int) ∧ RowKit.Hid (∀ j, j < k → A.getD j fd0 = B.getD j fd0) ∧ Below w.heap.size w wr) (fun i _ => n - (intOf i).toNat)
  case atStart => exact ⟨0, Nat.zero_le _, rfl, (fun j hj => by omega), Below.refl _ _⟩
  case round =>
    obtain ⟨k, hk, rfl, HJ, hbw⟩ := hrel
    by_cases hkn : k < n
    · obtain ⟨g, o, cp, x, he, hg, c0, c1, c2, c3, hq⟩ := (HU.out.after hbw).at k (by rw [HN.out]; exact hkn)
      obtain ⟨ha, -, hcp⟩ := Value.slice.inj he
      subst ha hcp
      clear he
      obtain ⟨g', o', cp', y, he', hg', d0, d1, d2, d3, hq'⟩ := (HV.out.after hbw).at k (by rw [HM.out]; exact hkn)
      obtain ⟨ha', -, hcp'⟩ := Value.slice.inj he'
      subst ha' hcp'
      clear he'
      have i1 : (0 : Int) ≤ (k : Int) := by omega
      have i2 : (k : Int) < (n : Int) := by omega
      cases hsf : sameB (A.getD k fd0) (B.getD k fd0)
      · obtain rfl : bb = false := by
          cases h : bb
          · rfl
          · exact absurd (by rw [HEq.out.1 h]) (sameB_ne hsf)
        have cA := Lib.hid (fun W (h : Below wr.heap.size wr W) => cS.out k x y W (hq.after h) (hq'.after h) false hsf)
        have Fin := Lib.hid hbw
        have Fin0 := Lib.hid (Below.refl wr.heap.size wr)
        clear HJ hq hq' hsf HEq HX
        generalize S (A.getD k fd0).tag = t0 at *
        generalize S (A.getD k fd0).ind = t1 at *
        generalize (A.getD k fd0).auth = t3 at *
        generalize S (B.getD k fd0).tag = s0 at *
        generalize S (B.getD k fd0).ind = s1 at *
        generalize (B.getD k fd0).auth = s3 at *
        go_wp2
        go_region_law (first | (go_simp; go_at_call 22; refine (cA.out _ ?_).mono ?_; (first | exact Fin0.out | exact Fin0.out.drew); rintro e w5 ⟨rfl, d⟩; have Fin2 := Lib.hid (Fin.out.drew.trans (d.mono Fin.out.size))))
        all_goals
          go_wp2
          go_ret
          exact ⟨rfl, Fin2.out⟩
      · have cA := Lib.hid (fun W (h : Below wr.heap.size wr W) => cS.out k x y W (hq.after h) (hq'.after h) true hsf)
        have Fin := Lib.hid hbw
        have Fin0 := Lib.hid (Below.refl wr.heap.size wr)
        have HJ2 : RowKit.Hid (∀ j, j < k + 1 → A.getD j fd0 = B.getD j fd0) := by
          intro j hj
          rcases Nat.lt_or_ge j k with h | h
          · exact HJ.out j h
          · rw [show j = k by omega]; exact (sameB_iff _ _).1 hsf
        clear HJ hq hq' hsf HEq HX
        generalize S (A.getD k fd0).tag = t0 at *
        generalize S (A.getD k fd0).ind = t1 at *
        generalize (A.getD k fd0).auth = t3 at *
        generalize S (B.getD k fd0).tag = s0 at *
        generalize S (B.getD k fd0).ind = s1 at *
        generalize (B.getD k fd0).auth = s3 at *
        go_wp2
        go_region_law (first | (go_simp; go_at_call 22; refine (cA.out _ ?_).mono ?_; (first | exact Fin0.out | exact Fin0.out.drew); rintro e w5 ⟨rfl, d⟩; have Fin2 := Lib.hid (Fin.out.drew.trans (d.mono Fin.out.size))))
        all_goals
          go_wp2
          go_roundw
          case rel => exact ⟨k + 1, by omega, by go_num, HJ2, Fin2.out⟩
          case measure => simp [intOf]; omega
    · obtain rfl : k = n := by omega
      obtain rfl : bb = true := HEq.out.2 (HX.out (by rw [HN.out, HM.out]) (fun j hj => HJ.out j (by rw [HN.out] at hj; exact hj)))
      go_wp2
      go_ret
      exact ⟨rfl, hbw⟩
end

section
open Go.RowKit Go.PlainAid
set_option maxHeartbeats 8000000 in
theorem refSame08_any (r q : Rec) (u v : Value) (w : World) (hu : FL u r.fields w) (hv : FL v q.fields w) (b : Bool) (hb : sameRB r q = b) :
    Calls Tryd.prog 15 #[RV r u, RV q v] w fun e w' => e = .returned (.bool b) ∧ Below w.heap.size w w' := by
  unfold RV
  unfold sameRB at hb
  have cF := Lib.hid (fun W hx hy z hz => refSameFields_any r.fields q.fields u v W hx hy z hz)
  obtain ⟨W0, hW0⟩ : ∃ W0, (w.alloc (.cells #[.int .i64 r.id, .int .i64 r.ver, .int .i64 r.kind, .string (S r.lang), u] 31)).alloc (.cells #[.int .i64 q.id, .int .i64 q.ver, .int .i64 q.kind, .string (S q.lang), v] 31) = W0 := ⟨_, rfl⟩
  have b1 := (Below.refl w.heap.size w).alloc (Nat.le_refl _) (.cells #[.int .i64 r.id, .int .i64 r.ver, .int .i64 r.kind, .string (S r.lang), u] 31)
  have b0 : Below w.heap.size w W0 := by rw [← hW0]; exact b1.alloc (by simp) _
  have k0 : W0.cell? ⟨w.heap.size, 0, none⟩ = some (.int .i64 r.id) := by rw [← hW0]; simp
  have k1 : W0.cell? ⟨w.heap.size, 1, none⟩ = some (.int .i64 r.ver) := by rw [← hW0]; simp
  have k2 : W0.cell? ⟨w.heap.size, 2, none⟩ = some (.int .i64 r.kind) := by rw [← hW0]; simp
  have k3 : W0.cell? ⟨w.heap.size, 3, none⟩ = some (.string (S r.lang)) := by rw [← hW0]; simp
  have k4 : W0.cell? ⟨w.heap.size, 4, none⟩ = some u := by rw [← hW0]; simp
  have l0 : W0.cell? ⟨w.heap.size + 1, 0, none⟩ = some (.int .i64 q.id) := by rw [← hW0]; simp
  have l1 : W0.cell? ⟨w.heap.size + 1, 1, none⟩ = some (.int .i64 q.ver) := by rw [← hW0]; simp
  have l2 : W0.cell? ⟨w.heap.size + 1, 2, none⟩ = some (.int .i64 q.kind) := by rw [← hW0]; simp
  have l3 : W0.cell? ⟨w.heap.size + 1, 3, none⟩ = some (.string (S q.lang)) := by rw [← hW0]; simp
  have l4 : W0.cell? ⟨w.heap.size + 1, 4, none⟩ = some v := by rw [← hW0]; simp
  have HW0 := Lib.hid hW0
  have q3 := S_eq r.lang q.lang
  have hu0 := Lib.hid (hu.after b0)
  have hv0 := Lib.hid (hv.after b0)
  obtain ⟨a, cap, rfl, _, _⟩ := hu.length
  obtain ⟨a', cap', rfl, _, _⟩ := hv.length
  clear hW0 b1 hu hv
  generalize sameFB r.fields q.fields = sf at *
  generalize r.fields.length = n at *
  generalize q.fields.length = m at *
  by_cases h0 : r.id = q.id
  case neg =>
    rw [decide_eq_false h0] at hb
    simp only [Bool.false_and] at hb
    subst hb
    have t0 : (r.id != q.id) = true := by simpa using h0
    clear h0
    go_enter Tryd.func15, Tryd.ntmps15
    go_wp2
    go_ret
    rw [HW0.out]
    exact ⟨rfl, b0⟩
  rw [decide_eq_true h0] at hb
  have t0 : (r.id != q.id) = false := by simpa using h0
  clear h0
  by_cases h1 : r.ver = q.ver
  case neg =>
    rw [decide_eq_false h1] at hb
    simp only [Bool.false_and, Bool.and_false] at hb
    subst hb
    have t1 : (r.ver != q.ver) = true := by simpa using h1
    clear h1
    go_enter Tryd.func15, Tryd.ntmps15
    go_wp2
    go_ret
    rw [HW0.out]
    exact ⟨rfl, b0⟩
  rw [decide_eq_true h1] at hb
  have t1 : (r.ver != q.ver) = false := by simpa using h1
  clear h1
  by_cases h2 : r.kind = q.kind
  case neg =>
    rw [decide_eq_false h2] at hb
    simp only [Bool.false_and, Bool.and_false] at hb
    subst hb
    have t2 : (r.kind != q.kind) = true := by simpa using h2
    clear h2
    go_enter Tryd.func15, Tryd.ntmps15
    go_wp2
    go_ret
    rw [HW0.out]
    exact ⟨rfl, b0⟩
  rw [decide_eq_true h2] at hb
  have t2 : (r.kind != q.kind) = false := by simpa using h2
  clear h2
  by_cases h3 : r.lang = q.lang
  case neg =>
    rw [decide_eq_false h3] at hb q3
    simp only [Bool.false_and, Bool.and_false] at hb
    subst hb
    clear h3
    generalize S r.lang = x at *
    generalize S q.lang = y at *
    go_enter Tryd.func15, Tryd.ntmps15
    go_wp2
    go_ret
    rw [HW0.out]
    exact ⟨rfl, b0⟩
  rw [decide_eq_true h3] at hb q3
  simp only [Bool.true_and] at hb
  subst hb
  clear h3
  have c := Lib.hid (cF.out W0 hu0.out hv0.out sf rfl)
  generalize S r.lang = x at *
  generalize S q.lang = y at *
  go_enter Tryd.func15, Tryd.ntmps15
  go_wp2_with fail
  rw [HW0.out]
  refine c.out.mono ?_
  rintro e w5 ⟨rfl, d⟩
  have Fin := Lib.hid (b0.trans (d.mono b0.size))
  go_wp2
  go_ret
  exact ⟨rfl, Fin.out⟩

theorem langB_false (l : List UInt8) (k : Nat) (hk : k < 3) (hb : lowB (l.getD k 0) = false) : langB l = false := by
  unfold langB
  match k, hk with
  | 0, _ => rw [hb]; simp
  | 1, _ => rw [hb]; simp
  | 2, _ => rw [hb]; simp
theorem langB_true (l : List UInt8) (h : l.length = 3) (hb : ∀ k, k < 3 → lowB (l.getD k 0) = true) : langB l = true := by
  unfold langB
  rw [hb 0 (by omega), hb 1 (by omega), hb 2 (by omega), decide_eq_true h]
  rfl

set_option maxHeartbeats 16000000 in
theorem refRight08_any (r : Rec) (u : Value) (w : World) (hu : FL u r.fields w) (hz : ∀ i, i < r.fields.length → ∀ j, j < (r.fields.getD i fd0).subs.length → ((r.fields.getD i fd0).subs.getD j sub0).2.length ≤ 1000000) (er : Int) (hb : rightRI r = er) :
    Calls Tryd.prog 30 #[RV r u] w fun e w' => e = .returned (.int .i64 er) ∧ Below w.heap.size w w' := by
  have HU := Lib.hid hu
  obtain ⟨a, cap, rfl, hcap, hmax⟩ := hu.length
  unfold maxLen at hmax
  unfold RV
  unfold rightRI at hb
  have HHit := Lib.hid (firstFE_hit r.fields)
  have HMiss := Lib.hid (firstFE_miss r.fields)
  have HLF := Lib.hid (langB_false r.lang)
  have HLT := Lib.hid (langB_true r.lang)
  have HL3 : langB r.lang = true → r.lang.length = 3 := fun h => by
    unfold langB at h
    simp only [Bool.and_eq_true, decide_eq_true_eq] at h
    exact h.1.1.1
  have cR := Lib.hid (fun k x W hx hzz e he => refRight_any (r.fields.getD k fd0) x W hx hzz e he)
  unfold FV at cR
  generalize firstFE r.fields = fe at *
  generalize langB r.lang = lb at *
  obtain ⟨n, hn⟩ : ∃ n, r.fields.length = n := ⟨_, rfl⟩
  rw [hn] at hcap hb HU ⊢
  have HN := Lib.hid hn
  have HZ := Lib.hid hz
  obtain ⟨W0, hW0⟩ : ∃ W0, w.alloc (.cells #[.int .i64 r.id, .int .i64 r.ver, .int .i64 r.kind, .string (S r.lang), .slice a n cap] 31) = W0 := ⟨_, rfl⟩
  have b0 : Below w.heap.size w W0 := by rw [← hW0]; exact (Below.refl w.heap.size w).alloc (Nat.le_refl _) _
  have hlt : w.heap.size < W0.heap.size := by rw [← hW0]; simp
  have k0 : W0.cell? ⟨w.heap.size, 0, none⟩ = some (.int .i64 r.id) := by rw [← hW0]; simp
  have k1 : W0.cell? ⟨w.heap.size, 1, none⟩ = some (.int .i64 r.ver) := by rw [← hW0]; simp
  have k2 : W0.cell? ⟨w.heap.size, 2, none⟩ = some (.int .i64 r.kind) := by rw [← hW0]; simp
  have k3 : W0.cell? ⟨w.heap.size, 3, none⟩ = some (.string (S r.lang)) := by rw [← hW0]; simp
  have k4 : W0.cell? ⟨w.heap.size, 4, none⟩ = some (.slice a n cap) := by rw [← hW0]; simp
  have HW0 := Lib.hid hW0
  have HU0 := Lib.hid (HU.out.after b0)
  clear hn hW0 hu HU hz
  have hsz := S_size r.lang
  have hbt := get_bt (S r.lang)
  have HBS := Lib.hid (bt_S r.lang)
  obtain ⟨ll, hll⟩ : ∃ ll, r.lang.length = ll := ⟨_, rfl⟩
  rw [hll] at hsz HLT HL3
  clear hll
  generalize S r.lang = st at *
  generalize r.id = vi at *
  generalize r.ver = vv at *
  generalize r.kind = vk at *
  by_cases h0 : vi < 0 ∨ 9999 < vi
  · rw [if_pos h0] at hb
    subst hb
    rcases h0 with h0 | h0
    · have d0 : decide (vi < 0) = true := decide_eq_true h0
      clear h0
      go_enter Tryd.func30, Tryd.ntmps30
      go_wp2
      go_ret
      rw [HW0.out]
      exact ⟨rfl, b0⟩
    · have d0 : decide (vi < 0) = false := decide_eq_false (by omega)
      have d1 : decide (9999 < vi) = true := decide_eq_true h0
      clear h0
      go_enter Tryd.func30, Tryd.ntmps30
      go_wp2
      go_ret
      rw [HW0.out]
      exact ⟨rfl, b0⟩
  rw [if_neg h0] at hb
  have d0 : decide (vi < 0) = false := decide_eq_false (by omega)
  have d1 : decide (9999 < vi) = false := decide_eq_false (by omega)
  clear h0
  by_cases h1 : vv < 1 ∨ 3 < vv
  · rw [if_pos h1] at hb
    subst hb
    rcases h1 with h0 | h0
    · have d2 : decide (vv < 1) = true := decide_eq_true h0
      clear h0
      go_enter Tryd.func30, Tryd.ntmps30
      go_wp2
      go_ret
      rw [HW0.out]
      exact ⟨rfl, b0⟩
    · have d2 : decide (vv < 1) = false := decide_eq_false (by omega)
      have d3 : decide (3 < vv) = true := decide_eq_true h0
      clear h0
      go_enter Tryd.func30, Tryd.ntmps30
      go_wp2
      go_ret
      rw [HW0.out]
      exact ⟨rfl, b0⟩
  rw [if_neg h1] at hb
  have d2 : decide (vv < 1) = false := decide_eq_false (by omega)
  have d3 : decide (3 < vv) = false := decide_eq_false (by omega)
  clear h1
  by_cases h2 : vk < 1 ∨ 4 < vk
  · rw [if_pos h2] at hb
    subst hb
    rcases h2 with h0 | h0
    · have d4 : decide (vk < 1) = true := decide_eq_true h0
      clear h0
      go_enter Tryd.func30, Tryd.ntmps30
      go_wp2
      go_ret
      rw [HW0.out]
      exact ⟨rfl, b0⟩
    · have d4 : decide (vk < 1) = false := decide_eq_false (by omega)
      have d5 : decide (4 < vk) = true := decide_eq_true h0
      clear h0
      go_enter Tryd.func30, Tryd.ntmps30
      go_wp2
      go_ret
      rw [HW0.out]
      exact ⟨rfl, b0⟩
  rw [if_neg h2] at hb
  have d4 : decide (vk < 1) = false := decide_eq_false (by omega)
  have d5 : decide (4 < vk) = false := decide_eq_false (by omega)
  clear h2
  by_cases h3 : ll = 3
  case neg =>
    obtain rfl : lb = false := by
      cases lb
      · rfl
      · exact absurd (HL3 rfl) h3
    rw [if_pos rfl] at hb
    subst hb
    have t3 : ((ll : Int) != 3) = true := by simp; omega
    clear HL3 h3
    go_enter Tryd.func30, Tryd.ntmps30
    go_wp2
    go_ret
    rw [HW0.out]
    exact ⟨rfl, b0⟩
  subst h3
  have HB := Lib.hid hb
  clear hb HL3
  go_enter Tryd.func30, Tryd.ntmps30
  go_wp2
  rw [HW0.out]
  clear k0 k1 k2 d0 d1 d2 d3 d4 d5
  go_loopw [3] (fun i wr => ∃ k : Nat, k ≤ 3 ∧ i = .int .i64 (k : Int) ∧ RowKit.Hid (∀ j, j < k → lowB (r.lang.getD j 0) = true) ∧ wr = W0) (fun i _ => 3 - (intOf i).toNat)
  case atStart => exact ⟨0, Nat.zero_le _, rfl, (fun j hj => by omega), rfl⟩
  case round =>
    obtain ⟨k, hk, rfl, HJ, hwr⟩ := hrel
    rw [hwr]
    clear hwr
    by_cases hk3 : k < 3
    · have i1 : (0 : Int) ≤ (k : Int) := by omega
      have i2 : (k : Int) < 3 := by omega
      have hq := HBS.out k
      obtain ⟨y, hy⟩ : ∃ y, (r.lang.getD k 0).toNat = y := ⟨_, rfl⟩
      rw [hy] at hq
      cases hlo : lowB (r.lang.getD k 0)
      · obtain rfl : lb = false := HLF.out k hk3 hlo
        have hB := HB.out
        rw [if_pos rfl] at hB
        subst hB
        unfold lowB at hlo
        rw [hy] at hlo
        clear HJ HB
        by_cases hy1 : y < 97
        · have e1 : decide (bt st k < 97) = true := decide_eq_true (by omega)
          clear hlo hy1 hq hy
          go_wp2
          go_ret
          exact ⟨rfl, b0⟩
        · have e1 : decide (bt st k < 97) = false := decide_eq_false (by omega)
          have hy2 : 122 < y := by
            rcases Nat.lt_or_ge 122 y with h | h
            · exact h
            · rw [decide_eq_true (show 97 ≤ y by omega), decide_eq_true h] at hlo
              cases hlo
          have e2 : decide (122 < bt st k) = true := decide_eq_true (by omega)
          clear hlo hy1 hy2 hq hy
          go_wp2
          go_ret
          exact ⟨rfl, b0⟩
      · have HJ2 : RowKit.Hid (∀ j, j < k + 1 → lowB (r.lang.getD j 0) = true) := by
          intro j hj
          rcases Nat.lt_or_ge j k with h | h
          · exact HJ.out j h
          · rw [show j = k by omega]; exact hlo
        unfold lowB at hlo
        rw [hy, Bool.and_eq_true, decide_eq_true_eq, decide_eq_true_eq] at hlo
        have e1 : decide (bt st k < 97) = false := decide_eq_false (by omega)
        have e2 : decide (122 < bt st k) = false := decide_eq_false (by omega)
        clear hlo hq hy HJ
        go_wp2
        go_roundw
        case rel => exact ⟨k + 1, by omega, by go_num, HJ2, trivial⟩
        case measure => simp [intOf]; omega
    · obtain rfl : k = 3 := by omega
      obtain rfl : lb = true := HLT.out (by first | rfl | trivial) (fun j hj => HJ.out j hj)
      have hB := HB.out
      rw [if_neg (fun h => by cases h)] at hB
      clear HB HJ hbt hsz k3
      by_cases hlong : 64 < n
      · rw [if_pos hlong] at hB
        subst hB
        have d6 : decide ((64 : Int) < (n : Int)) = true := decide_eq_true (by omega)
        go_wp2
        go_ret
        exact ⟨rfl, b0⟩
      rw [if_neg hlong] at hB
      subst hB
      have d6 : decide ((64 : Int) < (n : Int)) = false := decide_eq_false (by omega)
      have hn64 : n ≤ 64 := by omega
      clear hlong
      go_wp2
      go_loopw [4] (fun i wr => ∃ k : Nat, k ≤ n ∧ i = .int .i64 (k : Int) ∧ RowKit.Hid (∀ j, j < k → rightI (r.fields.getD j fd0) = 0) ∧ Below W0.heap.size W0 wr) (fun i _ => n - (intOf i).toNat)
      case atStart => exact ⟨0, Nat.zero_le _, rfl, (fun j hj => by omega), Below.refl _ _⟩
      case round =>
        obtain ⟨k, hk, rfl, HJ, hbw⟩ := hrel
        have j4 := (hbw.cell (p := ⟨w.heap.size, 4, none⟩) hlt).trans k4
        by_cases hkn : k < n
        · obtain ⟨g, o, cap', x, he, hg, c0, c1, c2, c3, hq⟩ := (HU0.out.after hbw).at k (by rw [HN.out]; exact hkn)
          obtain ⟨ha, -, hcp⟩ := Value.slice.inj he
          subst ha hcp
          clear he
          have i1 : (0 : Int) ≤ (k : Int) := by omega
          have i2 : (k : Int) < (n : Int) := by omega
          obtain ⟨ee, hee⟩ : ∃ ee, rightI (r.fields.getD k fd0) = ee := ⟨_, rfl⟩
          have c := Lib.hid (cR.out k x wr hq (fun j hj => HZ.out k (by rw [HN.out]; exact hkn) j hj) ee hee)
          have hHit := HHit.out k (by rw [HN.out]; exact hkn) HJ.out
          rw [hee] at hHit
          by_cases h0 : ee = 0
          · have HJ2 : RowKit.Hid (∀ j, j < k + 1 → rightI (r.fields.getD j fd0) = 0) := by
              intro j hj
              rcases Nat.lt_or_ge j k with h | h
              · exact HJ.out j h
              · rw [show j = k by omega, hee]; exact h0
            subst h0
            clear HJ hq hHit
            generalize S (r.fields.getD k fd0).tag = t0 at *
            generalize S (r.fields.getD k fd0).ind = t1 at *
            generalize (r.fields.getD k fd0).auth = t3 at *
            go_wp2_with fail
            refine c.out.mono ?_
            rintro e w5 ⟨rfl, d⟩
            have hb5 := Lib.hid (hbw.trans (d.mono hbw.size))
            go_wp2
            go_roundw
            case rel => exact ⟨k + 1, by omega, by go_num, HJ2, hb5.out⟩
            case measure => simp [intOf]; omega
          · obtain rfl : fe = ee := hHit h0
            have t5 : (fe != 0) = true := by simpa using h0
            have Fin := Lib.hid (b0.trans (hbw.mono b0.size))
            clear HJ hq hHit h0 hee
            generalize S (r.fields.getD k fd0).tag = t0 at *
            generalize S (r.fields.getD k fd0).ind = t1 at *
            generalize (r.fields.getD k fd0).auth = t3 at *
            go_wp2_with fail
            refine c.out.mono ?_
            rintro e w5 ⟨rfl, d⟩
            have Fin2 := Lib.hid (Fin.out.trans (d.mono Fin.out.size))
            go_wp2
            go_ret
            exact ⟨rfl, Fin2.out⟩
        · obtain rfl : k = n := by omega
          obtain rfl : fe = 0 := HMiss.out (fun j hj => HJ.out j (by rw [HN.out] at hj; exact hj))
          have Fin := Lib.hid (b0.trans (hbw.mono b0.size))
          go_wp2
          go_ret
          exact ⟨rfl, Fin.out⟩
end

section
open Go.RowKit
theorem append_block {P : Program} (w : World) (base : Nat) (t ty e : TypeId) (i : TypeInfo) (z : Value) (size bytes : Nat) (ht : P.underlying t = some (.slice e)) (hi : P.info? e = some i) (hz : i.zero = some z)
    (hsize : i.size = size) (hby : i.bytes = bytes) (v : Value) (n : Nat) (xs : List Value) (hown : w.ownsRow base e size v n xs)
    (a : Addr) (m c : Nat) (news : List Value) (hl : news.length = m * size) (hnews : ∀ j u, news[j]? = some u → w.cell? (a.add j) = some u) (h1 : ∀ u ∈ news, u.oneCell' = true) (hm : 0 < m)
    (h63 : n + m ≤ maxLen) (hbytes : (n + m) * bytes ≤ 140737488355328) (v' : Value) (w' : World) (hr : (Builtin.append_ #[t, t] ty #[v, .slice (some a) m c]).run P w = .ok v' w') :
    v'.ownBlock = v.ownBlock ∨ v'.ownBlock = some w.heap.size := by
  subst hsize
  subst hby
  have hsmall : n + m ≤ 9223372036854775807 := by simp only [maxLen] at h63; omega
  rcases hown.2 with ⟨rfl, rfl⟩ | ⟨g, cap, cur, rfl, hbg, hg, hnc, hcm, hcs, htake⟩
  · have h2 := run_append_nil (P := P) w t ty e i z ht hi hz a m c news hl hnews hm (by omega) (by have hb := hbytes; simp only [Nat.zero_add] at hb; omega)
    rw [hr] at h2
    injection h2 with h3 h4
    rw [h3]
    exact .inr rfl
  · by_cases hroom : n + m ≤ cap
    · have hfit : n * i.size + news.length ≤ cur.size := by rw [hl, hcs, ← Nat.add_mul]; exact Nat.mul_le_mul_right _ hroom
      have h2 := run_append_room (P := P) w t ty e i ht hi g n cap cur hg a m c news hl hnews h1 hroom hfit
      rw [hr] at h2
      injection h2 with h3 h4
      rw [h3]
      exact .inl rfl
    · have h2 := run_append_grow (P := P) w t ty e i z ht hi hz ⟨g, 0, none⟩ n cap xs hown.1 (hown.cells (g := g) rfl) a m c news hl hnews (by omega) (by omega) (growslice_fits (by omega) hbytes)
      rw [hr] at h2
      injection h2 with h3 h4
      rw [h3]
      exact .inr rfl

theorem wpList_append_two {P : Program} (w : World) {ops : Array Oper} {rest : List Oper} {o : Oper} {a : Act} {Q : Exit → Act → World → Prop} (hgd : o.guard = none) (s x : Operand) (t : TypeId)
    (ho : o.op = .call { callee := .builtin .append, args := #[s, x], argTypes := #[t, t] })
    (base : Nat) (e : TypeId) (i : TypeInfo) (z : Value) (size bytes : Nat) (ht : P.underlying t = some (.slice e)) (hi : P.info? e = some i) (hz : i.zero = some z)
    (hsize : i.size = size) (hby : i.bytes = bytes) (hzs : z.cells.size = size) (hsz : 0 < size)
    (v : Value) (n : Nat) (xs : List Value) (hs : a.eval s = v) (hown : w.ownsRow base e size v n xs)
    (ad : Addr) (m c : Nat) (news : List Value) (hx : a.eval x = .slice (some ad) m c) (hl : news.length = m * size) (hnews : ∀ j u, news[j]? = some u → w.cell? (ad.add j) = some u) (h1 : ∀ u ∈ news, u.oneCell' = true) (hm : 0 < m)
    (h63 : n + m ≤ maxLen) (hbytes : (n + m) * bytes ≤ 140737488355328) (hbase : base ≤ w.heap.size)
    (h : ∀ v' w', w'.ownsRow base e size v' (n + m) (xs ++ news) → w.grownBy w' v.ownBlock → v' ≠ .slice none 0 0 → (v'.ownBlock = v.ownBlock ∨ v'.ownBlock = some w.heap.size) → wpList P ops Q rest (a.put o.dst v') w') : wpList P ops Q (o :: rest) a w :=
  wpList_plain hgd fun K hK => by
    obtain ⟨v', w', hr, h2, h3, h4⟩ := run_append_own (P := P) w base t o.type e i z size bytes ht hi hz hsize hby hzs hsz v n xs hown ad m c news hl hnews h1 h63 hbytes hbase
    have h5 := append_block w base t o.type e i z size bytes ht hi hz hsize hby v n xs hown ad m c news hl hnews h1 hm h63 hbytes v' w' hr
    have h6 : K (a.put o.dst v') w' := hK _ _ (h v' w' h2 h3 (fun he => by have := (h4.1 he).2; omega) h5)
    unfold Oper.wp execOp
    simp only [ho, resolve, invoke, builtin, Sem.run_bind, Sem.run_pure, Result.andThen_ok, List.map_toArray, List.map_cons, List.map_nil, hs, hx, hr]
    exact h6

/-- Another row stays where it is, and apart. -/
theorem own_apart {w w' : World} {base2 e2 size2 n2 : Nat} {v v' u : Value} {ys : List Value} (hu : w.ownsRow base2 e2 size2 u n2 ys) (hg : w.grownBy w' v.ownBlock)
    (hne : u.ownBlock = none ∨ u.ownBlock ≠ v.ownBlock) (hb : v'.ownBlock = v.ownBlock ∨ v'.ownBlock = some w.heap.size) :
    w'.ownsRow base2 e2 size2 u n2 ys ∧ (u.ownBlock = none ∨ u.ownBlock ≠ v'.ownBlock) := by
  refine ⟨hu.kept hg hne, ?_⟩
  rcases hne with h | h
  · exact .inl h
  · rcases hb with h2 | h2
    · exact .inr (by rw [h2]; exact h)
    · refine .inr fun h3 => ?_
      have := (hu.lt _ (h3.trans h2)).2
      omega
end

end Go.Proofs.YtceneblmllpdnaaDoor
