/- Merged: SC08. -/
import Derived.Test.YtcnjjdbpcobolaaGreatDoorQ24
import Derived.Test.YtcnjjdbpcobolaaGreatDoorShelf
import Derived.Shelf.SlSortCmp.QuietGrown
namespace Go.Proofs.YtcnjjdbpcobolaaGreatDoor

section
open Go.RowKit Go.PlainAid Go.Sort Go.Lib
/-- A field, as the sort hands it to the function. -/
def FVP (x : FU) : Value := .agg #[.string (S x.1.tag), .string (S x.1.ind), .slice x.2.1 x.2.2.1 x.2.2.2, .int .i64 x.1.auth]
set_option maxHeartbeats 4000000 in
theorem closure_any (x y : FU) (W : World) : Calls Tryz.prog 50 #[FVP x, FVP y] W fun e w' => e = .returned (.int .i64 (kc keyP x y)) ∧ ∃ q os', w' = grow (W.drewN q) os' := by
  have hcon := fun W' => Tryz.strings_Compare (S x.1.tag) (S y.1.tag) W'
  rw [show (S x.1.tag).data.toList = x.1.tag from rfl, show (S y.1.tag).data.toList = y.1.tag from rfl] at hcon
  unfold FVP kc keyP
  generalize compareBytes x.1.tag y.1.tag = r at hcon ⊢
  generalize S x.1.tag = t0 at *
  generalize S y.1.tag = t1 at *
  generalize S x.1.ind = s0 at *
  generalize S y.1.ind = s1 at *
  go_enter Tryz.func50, Tryz.ntmps50
  go_wp2_with fail
  refine (hcon _).mono ?_
  rintro e w1 ⟨rfl, rfl⟩
  go_wp2
  go_ret
  exact ⟨rfl, 0, _, by rw [alloc_eq_grow, alloc_eq_grow, grow_grow]; rfl⟩

/-- What a comparison of the elements p and q needs, in every world that has grown. -/
theorem SP4.cmp {w0 : World} {blk : Nat} {L : List FU} {W : World} {d0 : Array FU} (R : RowK encP 4 w0 blk 0 d0) (h : SP4 w0 blk L W) (hd : d0.size = L.length) (p : Nat) (hp : p < L.length) (x : FU) (hx : L.toArray[p]! = x) (n : Nat) (os : Array Obj) :
    (grow (W.drewN n) os).cell? ⟨blk, p * 4, none⟩ = some (.string (S x.1.tag)) ∧ (grow (W.drewN n) os).cell? ⟨blk, p * 4 + 1, none⟩ = some (.string (S x.1.ind)) ∧ (grow (W.drewN n) os).cell? ⟨blk, p * 4 + 2, none⟩ = some (.slice x.2.1 x.2.2.1 x.2.2.2) ∧ (grow (W.drewN n) os).cell? ⟨blk, p * 4 + 3, none⟩ = some (.int .i64 x.1.auth) := by
  have := (SP4.cells R (SWK.grown h n os) hd p hp).1
  rwa [hx] at this
theorem SP4.grown {w0 : World} {blk : Nat} {L : List FU} {W : World} (h : SP4 w0 blk L W) (n : Nat) (os : Array Obj) : SP4 w0 blk L (grow (W.drewN n) os) := SWK.grown h n os
theorem half_shr (i j : Nat) (h : i + j < 4611686018427387904) : (i + j) / 2 < 4611686018427387904 := by omega

set_option maxHeartbeats 8000000 in
set_option maxRecDepth 100000 in
theorem merge_one (w0 : World) (blk N cap : Nat) (d0 : Array FU) (hd : d0.size = N) (hN : N ≤ 100000) (R : RowK encP 4 w0 blk 0 d0) (A : List FU) (x : FU) (Y C : List FU) (a b : Nat) (ha : A.length = a) (hb : a + 1 + Y.length = b) (hl : b + C.length = N) (hY : Asc keyP Y)
    (w : World) (hS : SP4 w0 blk (A ++ (x :: (Y ++ C))) w) :
    Calls Tryz.prog 104 #[.slice (some ⟨blk, 0, none⟩) N cap, .int .i64 (a : Int), .int .i64 ((a : Int) + 1), .int .i64 (b : Int), .func (.func 50) #[] #[]] w fun e w' => e = .returned (.tuple #[]) ∧ ∃ M, Stab keyP M (x :: Y) ∧ SP4 w0 blk (A ++ (M ++ C)) w' := by
  obtain ⟨T, hT⟩ : ∃ T, A ++ (x :: (Y ++ C)) = T := ⟨_, rfl⟩
  have hTl : T.length = N := by rw [← hT]; simp; omega
  have hTa : T.toArray[a]! = x := by rw [← hT]; exact at_list A x _ ha.symm
  have hTY : ∀ t, t < Y.length → T.toArray[a + 1 + t]! = Y[t]! := by
    intro t ht
    rw [← hT, show A ++ x :: (Y ++ C) = (A ++ [x]) ++ (Y ++ C) by simp]
    exact at_X (A ++ [x]) Y C (by simp; omega) ht
  rw [hT] at hS
  have HS := Lib.hid hS
  have HR := Lib.hid R
  have HTY := Lib.hid hTY
  have HAsc := Lib.hid hY
  have c1 : (a : Int) + 1 - (a : Int) = 1 := by omega
  clear hS hTY hY R
  go_enter Tryz.func104, Tryz.ntmps104
  go_wp2
  go_loopw [10, 11] (fun vi vj wr => ∃ i j : Nat, vi = .int .i64 (i : Int) ∧ vj = .int .i64 (j : Int) ∧ a + 1 ≤ i ∧ i ≤ j ∧ j ≤ b ∧ RowKit.Hid (∀ t, a + 1 + t < i → kc keyP Y[t]! x < 0) ∧ RowKit.Hid (∀ t, j ≤ a + 1 + t → t < Y.length → kc keyP x Y[t]! ≤ 0) ∧ RowKit.Hid (SP4 w0 blk T wr)) (fun vi vj _ => (intOf vj).toNat - (intOf vi).toNat)
  case atStart => exact ⟨a + 1, b, by go_num, rfl, Nat.le_refl _, by omega, Nat.le_refl _, (fun t ht => by omega), (fun t h1 h2 => by omega), HS⟩
  case round =>
    obtain ⟨i, j, rfl, rfl, hai, hij, hjb, hlo, hhi, hsw⟩ := hrel
    by_cases hlt : i < j
    · have e1 : (i : Int) < (j : Int) := by omega
      obtain ⟨h, hh⟩ : ∃ h, (i + j) / 2 = h := ⟨_, rfl⟩
      have hmid : ((i : Int) + (j : Int)) / 2 = (h : Int) := by omega
      have hih : i ≤ h := by omega
      have hhj : h < j := by omega
      obtain ⟨y, hy⟩ : ∃ y, Y[h - (a + 1)]! = y := ⟨_, rfl⟩
      have hTh : T.toArray[h]! = y := by
        have := HTY.out (h - (a + 1)) (by omega)
        rwa [show a + 1 + (h - (a + 1)) = h by omega, hy] at this
      have HLo : RowKit.Hid (kc keyP y x < 0 → ∀ t, a + 1 + t < h + 1 → kc keyP Y[t]! x < 0) := by
        intro h0 t ht
        refine kc_le_lt keyP ?_ h0
        rw [← hy]
        exact HAsc.out.le (by omega) (by omega)
      have HHi : RowKit.Hid (¬ kc keyP y x < 0 → ∀ t, h ≤ a + 1 + t → t < Y.length → kc keyP x Y[t]! ≤ 0) := by
        intro h0 t h1 h2
        refine kc_le keyP (y := y) ?_ ?_
        · rw [kc_anti]; omega
        · rw [← hy]
          exact HAsc.out.le (by omega) h2
      have k1 := SP4.cmp HR.out hsw.out (by rw [hd, hTl]) h (by rw [hTl]; omega) y hTh
      have k2 := SP4.cmp HR.out hsw.out (by rw [hd, hTl]) a (by rw [hTl]; omega) x hTa
      have y0 := fun n os => (k1 n os).1
      have y1 := fun n os => (k1 n os).2.1
      have y2 := fun n os => (k1 n os).2.2.1
      have y3 := fun n os => (k1 n os).2.2.2
      have z0 := fun n os => (k2 n os).1
      have z1 := fun n os => (k2 n os).2.1
      have z2 := fun n os => (k2 n os).2.2.1
      have z3 := fun n os => (k2 n os).2.2.2
      have hcg := fun n os => closure_any y x (grow (wr.drewN n) os)
      unfold FVP at hcg
      clear k1 k2
      obtain ⟨r, hr⟩ : ∃ r, kc keyP y x = r := ⟨_, rfl⟩
      rw [hr] at hcg
      have HKc := Lib.hid hr
      clear hr
      generalize S y.1.tag = p0 at *
      generalize S y.1.ind = p1 at *
      generalize y.2.1 = p2 at *
      generalize y.2.2.1 = p3 at *
      generalize y.2.2.2 = p4 at *
      generalize y.1.auth = p5 at *
      generalize S x.1.tag = q0 at *
      generalize S x.1.ind = q1 at *
      generalize x.2.1 = q2 at *
      generalize x.2.2.1 = q3 at *
      generalize x.2.2.2 = q4 at *
      generalize x.1.auth = q5 at *
      have i0 : (0 : Int) ≤ (h : Int) := by omega
      have i1 : (h : Int) < (N : Int) := by omega
      have i2 : (0 : Int) ≤ (a : Int) := by omega
      have i3 : (a : Int) < (N : Int) := by omega
      clear hy hTh
      have mixed : Tryz.prog.follows .mixedOrders = true := by kernel_rfl
      by_cases hr : r < 0
      · have dr : decide (r < 0) = true := decide_eq_true hr
        have HLo2 := Lib.hid (HLo.out (by rw [HKc.out]; exact hr))
        clear HHi
        go_wp2_with fail
        go_quiet_grown (first | (go_at_call 50; refine Calls.grown_of (hcg _ _)))
        have HS2 := Lib.hid (hsw.out.grown nq osq)
        go_wp2
        go_roundw
        case rel => exact ⟨h + 1, j, by go_num, rfl, by omega, by omega, hjb, HLo2, hhi, HS2⟩
        case measure => simp [intOf]; omega
      · have dr : decide (r < 0) = false := decide_eq_false hr
        have HHi2 := Lib.hid (HHi.out (by rw [HKc.out]; exact hr))
        clear HLo
        go_wp2_with fail
        go_quiet_grown (first | (go_at_call 50; refine Calls.grown_of (hcg _ _)))
        have HS2 := Lib.hid (hsw.out.grown nq osq)
        go_wp2
        go_roundw
        case rel => exact ⟨i, h, rfl, rfl, hai, hih, by omega, hlo, HHi2, HS2⟩
        case measure => simp [intOf]; omega
    · obtain rfl : i = j := by omega
      obtain ⟨p, rfl⟩ : ∃ p, i = a + 1 + p := ⟨i - (a + 1), by omega⟩
      have hpY : p ≤ Y.length := by omega
      have e1 : ¬ ((a : Int) + 1 + (p : Int) < (a : Int) + 1 + (p : Int)) := by omega
      have e2 : (a : Int) + 1 + (p : Int) - 1 = (a : Int) + (p : Int) := by omega
      have hstab : Stab keyP (Y.take p ++ x :: Y.drop p) (x :: Y) := by
        have := Stab.front (key := keyP) (x := x) (Y1 := Y.take p) (Y2 := Y.drop p) (by rw [List.take_append_drop]; exact HAsc.out) (fun z hz => by
          obtain ⟨t, h1, h2, rfl⟩ := get_mem_take hz
          exact hlo.out t (by omega)) (fun z hz => by
          obtain ⟨t, h1, h2, rfl⟩ := get_mem_drop hz
          exact hhi.out t (by omega) h2)
        rwa [List.take_append_drop] at this
      have HSt := Lib.hid hstab
      have HStep := Lib.hid (fun u (hu : u < p) => move_step A Y x C (k := u) (p := a + u) (q := a + u + 1) (by omega) (by omega) (by omega))
      obtain ⟨TT, hTT⟩ : ∃ TT : Nat → List FU, (fun u => A ++ (Y.take u ++ x :: (Y.drop u ++ C))) = TT := ⟨_, rfl⟩
      have HT0 : RowKit.Hid (TT 0 = T) := by rw [← hTT, ← hT]; rfl
      have HTp : RowKit.Hid (TT p = A ++ ((Y.take p ++ x :: Y.drop p) ++ C)) := by rw [← hTT]; simp [RowKit.Hid]
      have HStep2 : RowKit.Hid (∀ u, u < p → Go.Sort.swp (TT u).toArray (a + u) (a + u + 1) = (TT (u + 1)).toArray) := by rw [← hTT]; exact HStep.out
      have HLn : RowKit.Hid (∀ u, u ≤ p → (TT u).toArray.size = N) := by
        intro u hu
        rw [← hTT, List.size_toArray]
        simp
        omega
      have HS0 : RowKit.Hid (SP4 w0 blk (TT 0) wr) := by unfold RowKit.Hid; rw [HT0.out]; exact hsw.out
      have HFin : RowKit.Hid (∀ W, SP4 w0 blk (TT p) W → ∃ M, Stab keyP M (x :: Y) ∧ SP4 w0 blk (A ++ (M ++ C)) W) := by
        intro W hW
        rw [HTp.out] at hW
        exact ⟨_, HSt.out, hW⟩
      clear hTT HStep hstab hlo hhi hsw hTa hT
      go_wp2
      go_loopw [13] (fun vk wr => ∃ u : Nat, vk = .int .i64 ((a : Int) + (u : Int)) ∧ u ≤ p ∧ RowKit.Hid (SP4 w0 blk (TT u) wr)) (fun vk _ => p - ((intOf vk).toNat - a))
      case atStart => exact ⟨0, by go_num, Nat.zero_le _, HS0⟩
      case round =>
        obtain ⟨u, rfl, hup, hS⟩ := hrel
        by_cases hlt : u < p
        · have e4 : (a : Int) + (u : Int) < (a : Int) + (p : Int) := by omega
          have S1 : SWK encP 4 w0 blk 0 (TT u).toArray wr := hS.out
          have hds : (TT u).toArray.size = N := HLn.out u hup
          have S2 : RowKit.Hid (SP4 w0 blk (TT (u + 1)) ((wr.drew.setCells blk ((a + u) * 4) (encP (TT u).toArray[a + u + 1]!)).setCells blk ((a + u + 1) * 4) (encP (TT u).toArray[a + u]!))) := by
            have := S1.swapped HR.out (a + u) (a + u + 1) (by omega) (by omega)
            rw [HStep2.out u hlt, Nat.zero_add, Nat.zero_add] at this
            exact this
          obtain ⟨⟨a0, a1, a2, a3⟩, ⟨f0, f1, f2, f3⟩⟩ := SP4.cells HR.out hS.out (by rw [hd, ← hds, List.size_toArray]) (a + u) (by rw [← List.size_toArray]; omega)
          obtain ⟨⟨b0, b1, b2, b3⟩, ⟨g0, g1, g2, g3⟩⟩ := SP4.cells HR.out hS.out (by rw [hd, ← hds, List.size_toArray]) (a + u + 1) (by rw [← List.size_toArray]; omega)
          unfold encP at S2
          rw [setCells_four, setCells_four] at S2
          simp only [drew_set] at S2
          generalize (TT u).toArray[a + u]! = xa at *
          generalize (TT u).toArray[a + u + 1]! = xb at *
          obtain ⟨⟨at0, at1, as2, at3⟩, ac0, ac1, ac2⟩ := xa
          obtain ⟨⟨bt0, bt1, bs2, bt3⟩, bc0, bc1, bc2⟩ := xb
          simp only at a0 a1 a2 a3 b0 b1 b2 b3
          generalize S at0 = ta at *
          generalize S at1 = ia at *
          generalize S bt0 = tb at *
          generalize S bt1 = ib at *
          clear S1 hds
          have p1 : ((a : Int) + (u : Int)).toNat = a + u := by omega
          have p2 : ((a : Int) + (u : Int) + 1).toNat = a + u + 1 := by omega
          have p3 : (0 : Int) ≤ (a : Int) + (u : Int) := by omega
          have p4 : (a : Int) + (u : Int) < (N : Int) := by omega
          have p5 : (0 : Int) ≤ (a : Int) + (u : Int) + 1 := by omega
          have p6 : (a : Int) + (u : Int) + 1 < (N : Int) := by omega
          have p7 : IntKind.i64.wrap ((a : Int) + (u : Int) + 1) = (a : Int) + (u : Int) + 1 := by rw [IntKind.wrap_i64]; omega
          go_wp2_with fail
          go_big_region
          go_wp2
          go_roundw
          case rel => exact ⟨u + 1, by go_num, by omega, S2⟩
          case measure => simp [intOf]; omega
        · obtain rfl : u = p := by omega
          have HF := Lib.hid (HFin.out wr hS.out)
          go_wp2
          refine bodyPost_ret (results_none rfl _ _ _) rfl ?_
          exact ⟨rfl, HF.out⟩
end

end Go.Proofs.YtcnjjdbpcobolaaGreatDoor
