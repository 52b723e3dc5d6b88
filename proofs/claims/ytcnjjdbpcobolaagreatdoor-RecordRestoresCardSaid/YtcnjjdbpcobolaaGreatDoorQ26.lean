/- Merged: SD08. -/
import Derived.Test.YtcnjjdbpcobolaaGreatDoorQ25
namespace Go.Proofs.YtcnjjdbpcobolaaGreatDoor

section
open Go.RowKit Go.PlainAid Go.Sort Go.Lib
/-- One element goes down to its place. -/
theorem move_down {α : Type} [Inhabited α] (A X : List α) (y : α) (Z : List α) {k p q : Nat} (hk : k < X.length) (hp : p = A.length + k + 1) (hq : q = A.length + k) :
    swp (A ++ (X.take (k + 1) ++ y :: (X.drop (k + 1) ++ Z))).toArray p q = (A ++ (X.take k ++ y :: (X.drop k ++ Z))).toArray := by
  have e1 : A ++ (X.take (k + 1) ++ y :: (X.drop (k + 1) ++ Z)) = (A ++ X.take k) ++ X[k] :: ([] ++ y :: (X.drop (k + 1) ++ Z)) := by
    rw [List.take_succ_eq_append_getElem hk]
    simp only [List.append_assoc, List.cons_append, List.nil_append]
  have e2 : A ++ (X.take k ++ y :: (X.drop k ++ Z)) = (A ++ X.take k) ++ y :: ([] ++ X[k] :: (X.drop (k + 1) ++ Z)) := by
    rw [List.drop_eq_getElem_cons hk]
    simp only [List.append_assoc, List.cons_append, List.nil_append]
  rw [e1, e2, swp_comm]
  exact swp_list _ _ _ _ _ (by simp; omega) (by simp; omega)

set_option maxHeartbeats 8000000 in
set_option maxRecDepth 100000 in
theorem merge_last (w0 : World) (blk N cap : Nat) (d0 : Array FU) (hd : d0.size = N) (hN : N ≤ 100000) (R : RowK encP 4 w0 blk 0 d0) (A X : List FU) (y : FU) (C : List FU) (a m : Nat) (ha : A.length = a) (hm : a + X.length = m) (hl : m + 1 + C.length = N) (hX2 : 2 ≤ X.length) (hX : Asc keyP X)
    (w : World) (hS : SP4 w0 blk (A ++ (X ++ (y :: C))) w) :
    Calls Tryz.prog 104 #[.slice (some ⟨blk, 0, none⟩) N cap, .int .i64 (a : Int), .int .i64 (m : Int), .int .i64 ((m : Int) + 1), .func (.func 50) #[] #[]] w fun e w' => e = .returned (.tuple #[]) ∧ ∃ M, Stab keyP M (X ++ [y]) ∧ SP4 w0 blk (A ++ (M ++ C)) w' := by
  obtain ⟨T, hT⟩ : ∃ T, A ++ (X ++ (y :: C)) = T := ⟨_, rfl⟩
  have hTl : T.length = N := by rw [← hT]; simp; omega
  have hTm : T.toArray[m]! = y := by
    rw [← hT, ← List.append_assoc]
    exact at_list (A ++ X) y C (by simp; omega)
  have hTX : ∀ t, t < X.length → T.toArray[a + t]! = X[t]! := by
    intro t ht
    rw [← hT]
    exact at_X A X (y :: C) (by omega) ht
  rw [hT] at hS
  have HS := Lib.hid hS
  have HR := Lib.hid R
  have HTX := Lib.hid hTX
  have HAsc := Lib.hid hX
  have c0 : ¬ ((m : Int) - (a : Int) = 1) := by omega
  have c01 : (((m : Int) - (a : Int)) == 1) = false := by simpa using c0
  have c1 : (m : Int) + 1 - (m : Int) = 1 := by omega
  clear hS hTX hX R
  go_enter Tryz.func104, Tryz.ntmps104
  go_wp2
  go_loopw [14, 15] (fun vi vj wr => ∃ i j : Nat, vi = .int .i64 (i : Int) ∧ vj = .int .i64 (j : Int) ∧ a ≤ i ∧ i ≤ j ∧ j ≤ m ∧ RowKit.Hid (∀ t, a + t < i → kc keyP X[t]! y ≤ 0) ∧ RowKit.Hid (∀ t, j ≤ a + t → t < X.length → kc keyP y X[t]! < 0) ∧ RowKit.Hid (SP4 w0 blk T wr)) (fun vi vj _ => (intOf vj).toNat - (intOf vi).toNat)
  case atStart => exact ⟨a, m, rfl, rfl, Nat.le_refl _, by omega, Nat.le_refl _, (fun t ht => by omega), (fun t h1 h2 => by omega), HS⟩
  case round =>
    obtain ⟨i, j, rfl, rfl, hai, hij, hjb, hlo, hhi, hsw⟩ := hrel
    by_cases hlt : i < j
    · have e1 : (i : Int) < (j : Int) := by omega
      obtain ⟨h, hh⟩ : ∃ h, (i + j) / 2 = h := ⟨_, rfl⟩
      have hmid : ((i : Int) + (j : Int)) / 2 = (h : Int) := by omega
      have hih : i ≤ h := by omega
      have hhj : h < j := by omega
      obtain ⟨x, hx⟩ : ∃ x, X[h - a]! = x := ⟨_, rfl⟩
      have hTh : T.toArray[h]! = x := by
        have := HTX.out (h - a) (by omega)
        rwa [show a + (h - a) = h by omega, hx] at this
      have HLo : RowKit.Hid (¬ kc keyP y x < 0 → ∀ t, a + t < h + 1 → kc keyP X[t]! y ≤ 0) := by
        intro h0 t ht
        refine kc_le keyP (y := x) ?_ ?_
        · rw [← hx]
          exact HAsc.out.le (by omega) (by omega)
        · rw [kc_anti]; omega
      have HHi : RowKit.Hid (kc keyP y x < 0 → ∀ t, h ≤ a + t → t < X.length → kc keyP y X[t]! < 0) := by
        intro h0 t h1 h2
        refine kc_lt_le keyP h0 ?_
        rw [← hx]
        exact HAsc.out.le (by omega) h2
      have k1 := SP4.cmp HR.out hsw.out (by rw [hd, hTl]) m (by rw [hTl]; omega) y hTm
      have k2 := SP4.cmp HR.out hsw.out (by rw [hd, hTl]) h (by rw [hTl]; omega) x hTh
      have y0 := fun n os => (k1 n os).1
      have y1 := fun n os => (k1 n os).2.1
      have y2 := fun n os => (k1 n os).2.2.1
      have y3 := fun n os => (k1 n os).2.2.2
      have z0 := fun n os => (k2 n os).1
      have z1 := fun n os => (k2 n os).2.1
      have z2 := fun n os => (k2 n os).2.2.1
      have z3 := fun n os => (k2 n os).2.2.2
      have hcg := fun n os => closure_any y x (grow (wr.drewN n) os)
      unfold FVP at hcg
      clear k1 k2
      obtain ⟨r, hr⟩ : ∃ r, kc keyP y x = r := ⟨_, rfl⟩
      rw [hr] at hcg
      have HKc := Lib.hid hr
      clear hr
      generalize S y.1.tag = p0 at *
      generalize S y.1.ind = p1 at *
      generalize y.2.1 = p2 at *
      generalize y.2.2.1 = p3 at *
      generalize y.2.2.2 = p4 at *
      generalize y.1.auth = p5 at *
      generalize S x.1.tag = q0 at *
      generalize S x.1.ind = q1 at *
      generalize x.2.1 = q2 at *
      generalize x.2.2.1 = q3 at *
      generalize x.2.2.2 = q4 at *
      generalize x.1.auth = q5 at *
      have i0 : (0 : Int) ≤ (h : Int) := by omega
      have i1 : (h : Int) < (N : Int) := by omega
      have i2 : (0 : Int) ≤ (m : Int) := by omega
      have i3 : (m : Int) < (N : Int) := by omega
      clear hx hTh
      have mixed : Tryz.prog.follows .mixedOrders = true := by kernel_rfl
      by_cases hr : r < 0
      · have dr : decide (r < 0) = true := decide_eq_true hr
        have HHi2 := Lib.hid (HHi.out (by rw [HKc.out]; exact hr))
        clear HLo
        go_wp2_with fail
        go_quiet_grown (first | (go_at_call 50; refine Calls.grown_of (hcg _ _)))
        have HS2 := Lib.hid (hsw.out.grown nq osq)
        go_wp2
        go_roundw
        case rel => exact ⟨i, h, rfl, rfl, hai, hih, by omega, hlo, HHi2, HS2⟩
        case measure => simp [intOf]; omega
      · have dr : decide (r < 0) = false := decide_eq_false hr
        have HLo2 := Lib.hid (HLo.out (by rw [HKc.out]; exact hr))
        clear HHi
        go_wp2_with fail
        go_quiet_grown (first | (go_at_call 50; refine Calls.grown_of (hcg _ _)))
        have HS2 := Lib.hid (hsw.out.grown nq osq)
        go_wp2
        go_roundw
        case rel => exact ⟨h + 1, j, by go_num, rfl, by omega, by omega, hjb, HLo2, hhi, HS2⟩
        case measure => simp [intOf]; omega
    · obtain rfl : i = j := by omega
      obtain ⟨p, rfl⟩ : ∃ p, i = a + p := ⟨i - a, by omega⟩
      obtain ⟨s, hs⟩ : ∃ s, X.length = p + s := ⟨X.length - p, by omega⟩
      have e1 : ¬ ((a : Int) + (p : Int) < (a : Int) + (p : Int)) := by omega
      have hmp : m = a + p + s := by omega
      have hstab : Stab keyP (X.take p ++ y :: X.drop p) (X ++ [y]) := by
        have := Stab.back (key := keyP) (y := y) (X1 := X.take p) (X2 := X.drop p) (by rw [List.take_append_drop]; exact HAsc.out) (fun z hz => by
          obtain ⟨t, h1, h2, rfl⟩ := get_mem_take hz
          exact hlo.out t (by omega)) (fun z hz => by
          obtain ⟨t, h1, h2, rfl⟩ := get_mem_drop hz
          exact hhi.out t (by omega) h2)
        rwa [List.take_append_drop] at this
      have HSt := Lib.hid hstab
      have HStep := Lib.hid (fun u (hu : u < s) => move_down A X y C (k := p + u) (p := a + p + u + 1) (q := a + p + u) (by omega) (by omega) (by omega))
      obtain ⟨TT, hTT⟩ : ∃ TT : Nat → List FU, (fun u => A ++ (X.take (p + u) ++ y :: (X.drop (p + u) ++ C))) = TT := ⟨_, rfl⟩
      have HTs : RowKit.Hid (TT s = T) := by
        rw [← hTT, ← hT]
        show A ++ (X.take (p + s) ++ y :: (X.drop (p + s) ++ C)) = _
        rw [← hs, List.take_length, List.drop_length, List.nil_append]
      have HT0 : RowKit.Hid (TT 0 = A ++ ((X.take p ++ y :: X.drop p) ++ C)) := by rw [← hTT]; simp [RowKit.Hid]
      have HStep2 : RowKit.Hid (∀ u, u < s → Go.Sort.swp (TT (u + 1)).toArray (a + p + u + 1) (a + p + u) = (TT u).toArray) := by rw [← hTT]; exact HStep.out
      have HLn : RowKit.Hid (∀ u, u ≤ s → (TT u).toArray.size = N) := by
        intro u hu
        rw [← hTT, List.size_toArray]
        simp
        omega
      have HS0 : RowKit.Hid (SP4 w0 blk (TT s) wr) := by unfold RowKit.Hid; rw [HTs.out]; exact hsw.out
      have HFin : RowKit.Hid (∀ W, SP4 w0 blk (TT 0) W → ∃ M, Stab keyP M (X ++ [y]) ∧ SP4 w0 blk (A ++ (M ++ C)) W) := by
        intro W hW
        rw [HT0.out] at hW
        exact ⟨_, HSt.out, hW⟩
      have hml : a + p + s + 1 + C.length = N := by omega
      clear hTT HStep hstab hlo hhi hsw hTm hT hs
      subst hmp
      go_wp2
      go_loopw [17] (fun vk wr => ∃ u : Nat, vk = .int .i64 ((a : Int) + (p : Int) + (u : Int)) ∧ u ≤ s ∧ RowKit.Hid (SP4 w0 blk (TT u) wr)) (fun vk _ => (intOf vk).toNat)
      case atStart => exact ⟨s, by go_num, Nat.le_refl _, HS0⟩
      case round =>
        obtain ⟨u, rfl, hup, hS⟩ := hrel
        by_cases hlt : 0 < u
        · obtain ⟨v, rfl⟩ : ∃ v, u = v + 1 := ⟨u - 1, by omega⟩
          have e4 : (a : Int) + (p : Int) < (a : Int) + (p : Int) + ((v : Int) + 1) := by omega
          have S1 : SWK encP 4 w0 blk 0 (TT (v + 1)).toArray wr := hS.out
          have hds : (TT (v + 1)).toArray.size = N := HLn.out (v + 1) hup
          have S2 : RowKit.Hid (SP4 w0 blk (TT v) ((wr.drew.setCells blk ((a + p + v + 1) * 4) (encP (TT (v + 1)).toArray[a + p + v]!)).setCells blk ((a + p + v) * 4) (encP (TT (v + 1)).toArray[a + p + v + 1]!))) := by
            have := S1.swapped HR.out (a + p + v + 1) (a + p + v) (by omega) (by omega)
            rw [HStep2.out v (by omega), Nat.zero_add, Nat.zero_add] at this
            exact this
          obtain ⟨⟨a0, a1, a2, a3⟩, ⟨f0, f1, f2, f3⟩⟩ := SP4.cells HR.out hS.out (by rw [hd, ← hds, List.size_toArray]) (a + p + v + 1) (by rw [← List.size_toArray]; omega)
          obtain ⟨⟨b0, b1, b2, b3⟩, ⟨g0, g1, g2, g3⟩⟩ := SP4.cells HR.out hS.out (by rw [hd, ← hds, List.size_toArray]) (a + p + v) (by rw [← List.size_toArray]; omega)
          unfold encP at S2
          rw [setCells_four, setCells_four] at S2
          simp only [drew_set] at S2
          generalize (TT (v + 1)).toArray[a + p + v + 1]! = xa at *
          generalize (TT (v + 1)).toArray[a + p + v]! = xb at *
          obtain ⟨⟨at0, at1, as2, at3⟩, ac0, ac1, ac2⟩ := xa
          obtain ⟨⟨bt0, bt1, bs2, bt3⟩, bc0, bc1, bc2⟩ := xb
          simp only at a0 a1 a2 a3 b0 b1 b2 b3
          generalize S at0 = ta at *
          generalize S at1 = ia at *
          generalize S bt0 = tb at *
          generalize S bt1 = ib at *
          clear S1 hds
          have q1 : ((a : Int) + (p : Int) + ((v : Int) + 1)).toNat = a + p + v + 1 := by omega
          have q2 : (a : Int) + (p : Int) + ((v : Int) + 1) - 1 = (a : Int) + (p : Int) + (v : Int) := by omega
          have q3 : (0 : Int) ≤ (a : Int) + (p : Int) + ((v : Int) + 1) := by omega
          have q4 : (a : Int) + (p : Int) + ((v : Int) + 1) < (N : Int) := by omega
          have q5 : (0 : Int) ≤ (a : Int) + (p : Int) + (v : Int) := by omega
          have q6 : (a : Int) + (p : Int) + (v : Int) < (N : Int) := by omega
          have q7 : ((a : Int) + (p : Int) + (v : Int)).toNat = a + p + v := by omega
          have q8 : IntKind.i64.wrap ((a : Int) + (p : Int) + (v : Int)) = (a : Int) + (p : Int) + (v : Int) := by rw [IntKind.wrap_i64]; omega
          go_wp2_with fail
          go_big_region
          go_wp2
          go_roundw
          case rel => exact ⟨v, by go_num, by omega, S2⟩
          case measure => simp [intOf]; omega
        · obtain rfl : u = 0 := by omega
          have HF := Lib.hid (HFin.out wr hS.out)
          go_wp2
          refine bodyPost_ret (results_none rfl _ _ _) rfl ?_
          exact ⟨rfl, HF.out⟩
end

end Go.Proofs.YtcnjjdbpcobolaaGreatDoor
