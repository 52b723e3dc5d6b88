/- Merged: SE08. -/
import Derived.Test.YtcnjjdbpcobolaaGreatDoorQ26
namespace Go.Proofs.YtcnjjdbpcobolaaGreatDoor

section
open Go.RowKit Go.PlainAid Go.Sort Go.Lib
/-- What symMerge does to two sorted parts. -/
def Merges (w0 : World) (blk N cap : Nat) (X Y : List FU) : Prop :=
  ∀ (A C : List FU) (a m b : Nat), A.length = a → a + X.length = m → m + Y.length = b → b + C.length = N → 0 < X.length → 0 < Y.length → Asc keyP X → Asc keyP Y → ∀ w, SP4 w0 blk (A ++ (X ++ (Y ++ C))) w →
    Calls Tryz.prog 104 #[.slice (some ⟨blk, 0, none⟩) N cap, .int .i64 (a : Int), .int .i64 (m : Int), .int .i64 (b : Int), .func (.func 50) #[] #[]] w fun e w' => e = .returned (.tuple #[]) ∧ ∃ M, Stab keyP M (X ++ Y) ∧ SP4 w0 blk (A ++ (M ++ C)) w'

set_option maxHeartbeats 16000000 in
set_option maxRecDepth 100000 in
theorem merge_parts (w0 : World) (blk N cap : Nat) (d0 : Array FU) (hd : d0.size = N) (hN : N ≤ 100000) (R : RowK encP 4 w0 blk 0 d0) (X Y : List FU) (hX2 : 2 ≤ X.length) (hY2 : 2 ≤ Y.length) (ih : ∀ U V : List FU, U.length + V.length < X.length + Y.length → Merges w0 blk N cap U V) : Merges w0 blk N cap X Y := by
  intro A C a m b ha hm hb hl _ _ hX hY w hS
  obtain ⟨T, hT⟩ : ∃ T, A ++ (X ++ (Y ++ C)) = T := ⟨_, rfl⟩
  have hTl : T.length = N := by rw [← hT]; simp; omega
  have hTX : ∀ t, t < X.length → T.toArray[a + t]! = X[t]! := by
    intro t ht
    rw [← hT]
    exact at_X A X (Y ++ C) (by omega) ht
  have hTY : ∀ t, t < Y.length → T.toArray[m + t]! = Y[t]! := by
    intro t ht
    rw [← hT]
    exact at_Y A X Y C (by omega) ht
  obtain ⟨mid, hmid⟩ : ∃ mid, (a + b) / 2 = mid := ⟨_, rfl⟩
  obtain ⟨lx, hlx⟩ : ∃ lx, X.length = lx := ⟨_, rfl⟩
  obtain ⟨ly, hly⟩ : ∃ ly, Y.length = ly := ⟨_, rfl⟩
  have hmidI : ((a : Int) + (b : Int)) / 2 = (mid : Int) := by omega
  have hma : a < mid := by omega
  have hmb : mid < b := by omega
  rw [hlx] at hm hX2
  rw [hly] at hb hY2
  have cRot := Lib.hid (fun A X Y C a m b h1 h2 h3 h4 h5 h6 W h => rotate_any w0 blk N cap d0 hd hN R (.func (.func 50) #[] #[]) A X Y C a m b h1 h2 h3 h4 h5 h6 W h)
  -- what a split gives
  have HEnd : RowKit.Hid (∀ s, a ≤ s → s ≤ m → s ≤ mid → mid ≤ s + ly → (s = a ∨ mid - s = ly ∨ kc keyP X[s - a - 1]! Y[mid - s]! ≤ 0) → (s = m ∨ s = mid ∨ kc keyP Y[mid - s - 1]! X[s - a]! < 0) →
      ∀ M1 M2, Stab keyP M1 (X.take (s - a) ++ Y.take (mid - s)) → Stab keyP M2 (X.drop (s - a) ++ Y.drop (mid - s)) → Stab keyP (M1 ++ M2) (X ++ Y)) := by
    intro s h1 h2 h3 h4 h5 h6 M1 M2 g1 g2
    exact Stab.split hX hY (by omega) (by omega) (by rcases h5 with h | h | h; exact .inl (by omega); exact .inr (.inl (by omega)); exact .inr (.inr h)) (by rcases h6 with h | h | h; exact .inl (by omega); exact .inr (.inl (by omega)); exact .inr (.inr h)) g1 g2
  have HRot : RowKit.Hid (∀ s, a ≤ s → s < m → s < mid → mid ≤ s + ly → ∀ W, SP4 w0 blk T W → Calls Tryz.prog 119 #[.slice (some ⟨blk, 0, none⟩) N cap, .int .i64 (s : Int), .int .i64 (m : Int), .int .i64 ((mid + m - s : Nat) : Int), .func (.func 50) #[] #[]] W fun e w' => e = .returned (.tuple #[]) ∧
      SP4 w0 blk (A ++ (X.take (s - a) ++ (Y.take (mid - s) ++ (X.drop (s - a) ++ (Y.drop (mid - s) ++ C))))) w') := by
    intro s h1 h2 h3 h4 W hW
    rw [← hT] at hW
    have hW' : SP4 w0 blk ((A ++ X.take (s - a)) ++ (X.drop (s - a) ++ (Y.take (mid - s) ++ (Y.drop (mid - s) ++ C)))) W := by
      have e : (A ++ X.take (s - a)) ++ (X.drop (s - a) ++ (Y.take (mid - s) ++ (Y.drop (mid - s) ++ C))) = A ++ (X ++ (Y ++ C)) := by
        rw [← List.append_assoc (Y.take (mid - s)), List.take_append_drop, List.append_assoc, ← List.append_assoc (X.take (s - a)), List.take_append_drop]
      rw [e]; exact hW
    refine (cRot.out (A ++ X.take (s - a)) (X.drop (s - a)) (Y.take (mid - s)) (Y.drop (mid - s) ++ C) s m (mid + m - s) ?_ ?_ ?_ ?_ ?_ ?_ W hW').mono fun e w' hh => ⟨hh.1, ?_⟩
    · rw [List.length_append, List.length_take]; omega
    · rw [List.length_drop]; omega
    · rw [List.length_take]; omega
    · rw [List.length_append, List.length_drop]; omega
    · rw [List.length_drop]; omega
    · rw [List.length_take]; omega
    · have := hh.2
      rwa [List.append_assoc] at this
  have HNo : RowKit.Hid (∀ s, a ≤ s → s ≤ m → s ≤ mid → mid ≤ s + ly → (m ≤ s ∨ mid ≤ s) → ∀ W, SP4 w0 blk T W → SP4 w0 blk (A ++ (X.take (s - a) ++ (Y.take (mid - s) ++ (X.drop (s - a) ++ (Y.drop (mid - s) ++ C))))) W) := by
    intro s h1 h2 h3 h4 h5 W hW
    have e : A ++ (X.take (s - a) ++ (Y.take (mid - s) ++ (X.drop (s - a) ++ (Y.drop (mid - s) ++ C)))) = T := by
      rw [← hT]
      congr 1
      rcases h5 with h | h
      · rw [List.take_of_length_le (show X.length ≤ s - a by omega), List.drop_of_length_le (show X.length ≤ s - a by omega), List.nil_append, ← List.append_assoc (Y.take (mid - s)), List.take_append_drop]
      · rw [show mid - s = 0 by omega, List.take_zero, List.drop_zero, List.nil_append, ← List.append_assoc (X.take (s - a)), List.take_append_drop]
    rw [e]; exact hW
  have HM1 : RowKit.Hid (∀ s, a < s → s ≤ m → s < mid → mid ≤ s + ly → ∀ D : List FU, mid + D.length = N → ∀ W, SP4 w0 blk (A ++ (X.take (s - a) ++ (Y.take (mid - s) ++ D))) W → Calls Tryz.prog 104 #[.slice (some ⟨blk, 0, none⟩) N cap, .int .i64 (a : Int), .int .i64 (s : Int), .int .i64 (mid : Int), .func (.func 50) #[] #[]] W fun e w' => e = .returned (.tuple #[]) ∧
      ∃ M, Stab keyP M (X.take (s - a) ++ Y.take (mid - s)) ∧ SP4 w0 blk (A ++ (M ++ D)) w') := by
    intro s h1 h2 h3 h4 D hD W hW
    refine ih (X.take (s - a)) (Y.take (mid - s)) ?_ A D a s mid ha ?_ ?_ hD ?_ ?_ (hX.take _) (hY.take _) W hW
    all_goals simp only [List.length_take]; omega
  have HN1 : RowKit.Hid (∀ s, (s ≤ a ∨ mid ≤ s) → Stab keyP (X.take (s - a) ++ Y.take (mid - s)) (X.take (s - a) ++ Y.take (mid - s))) := by
    intro s h
    refine Stab.refl ?_
    rcases h with h | h
    · rw [show s - a = 0 by omega, List.take_zero, List.nil_append]; exact hY.take _
    · rw [show mid - s = 0 by omega, List.take_zero, List.append_nil]; exact hX.take _
  have HM2 : RowKit.Hid (∀ s, a ≤ s → s < m → s ≤ mid → mid < s + ly → ∀ M1 : List FU, a + M1.length = mid → ∀ W, SP4 w0 blk (A ++ (M1 ++ (X.drop (s - a) ++ (Y.drop (mid - s) ++ C)))) W → Calls Tryz.prog 104 #[.slice (some ⟨blk, 0, none⟩) N cap, .int .i64 (mid : Int), .int .i64 ((mid + m - s : Nat) : Int), .int .i64 (b : Int), .func (.func 50) #[] #[]] W fun e w' => e = .returned (.tuple #[]) ∧
      ∃ M2, Stab keyP M2 (X.drop (s - a) ++ Y.drop (mid - s)) ∧ SP4 w0 blk (A ++ ((M1 ++ M2) ++ C)) w') := by
    intro s h1 h2 h3 h4 M1 hM W hW
    refine (ih (X.drop (s - a)) (Y.drop (mid - s)) ?_ (A ++ M1) C mid (mid + m - s) b ?_ ?_ ?_ hl ?_ ?_ (hX.drop _) (hY.drop _) W (by rw [List.append_assoc]; exact hW)).mono fun e w' hh => ⟨hh.1, ?_⟩
    · simp only [List.length_drop]; omega
    · rw [List.length_append]; omega
    · simp only [List.length_drop]; omega
    · simp only [List.length_drop]; omega
    · simp only [List.length_drop]; omega
    · simp only [List.length_drop]; omega
    · obtain ⟨M2, g1, g2⟩ := hh.2
      refine ⟨M2, g1, ?_⟩
      rw [List.append_assoc] at g2
      rw [List.append_assoc M1]
      exact g2
  have HN2 : RowKit.Hid (∀ s, (m ≤ s ∨ s + ly ≤ mid) → Stab keyP (X.drop (s - a) ++ Y.drop (mid - s)) (X.drop (s - a) ++ Y.drop (mid - s))) := by
    intro s h
    refine Stab.refl ?_
    rcases h with h | h
    · rw [List.drop_of_length_le (show X.length ≤ s - a by omega), List.nil_append]; exact hY.drop _
    · rw [List.drop_of_length_le (show Y.length ≤ mid - s by omega), List.append_nil]; exact hX.drop _
  have HL1 : RowKit.Hid (∀ s, a ≤ s → s ≤ m → s ≤ mid → mid ≤ s + ly → ∀ M1, Stab keyP M1 (X.take (s - a) ++ Y.take (mid - s)) → a + M1.length = mid) := by
    intro s h1 h2 h3 h4 M1 g
    rw [g.keep.len, List.length_append, List.length_take, List.length_take]
    omega
  have HLD : RowKit.Hid (∀ s, a ≤ s → s ≤ m → s ≤ mid → mid ≤ s + ly → mid + (X.drop (s - a) ++ (Y.drop (mid - s) ++ C)).length = N) := by
    intro s h1 h2 h3 h4
    rw [List.length_append, List.length_append, List.length_drop, List.length_drop]
    omega
  rw [hT] at hS
  have HS := Lib.hid hS
  have HR := Lib.hid R
  have HTX := Lib.hid (fun t (ht : t < lx) => hTX t (by omega))
  have HTY := Lib.hid (fun t (ht : t < ly) => hTY t (by omega))
  have c0 : ¬ ((m : Int) - (a : Int) = 1) := by omega
  have c01 : (((m : Int) - (a : Int)) == 1) = false := by simpa using c0
  have c1 : ¬ ((b : Int) - (m : Int) = 1) := by omega
  have c11 : (((b : Int) - (m : Int)) == 1) = false := by simpa using c1
  have hbN : b ≤ N := by omega
  clear hS hTX hTY hX hY R hT hl ih cRot ha hlx hly
  obtain ⟨Qf, hQf⟩ : ∃ Qf, (fun (e : Ending) (w' : World) => e = .returned (.tuple #[]) ∧ ∃ M, Stab keyP M (X ++ Y) ∧ SP4 w0 blk (A ++ (M ++ C)) w') = Qf := ⟨_, rfl⟩
  rw [hQf]
  have HQ : RowKit.Hid (∀ M w', Stab keyP M (X ++ Y) → SP4 w0 blk (A ++ (M ++ C)) w' → Qf (.returned (.tuple #[])) w') := by
    rw [← hQf]
    exact fun M w' h1 h2 => ⟨rfl, M, h1, h2⟩
  clear hQf
  have mixed : Tryz.prog.follows .mixedOrders = true := by kernel_rfl
  have hside : (decide ((mid : Int) < (m : Int)) = true ∧ (mid : Int) < (m : Int) ∧ (mid : Int) + (m : Int) - (b : Int) = ((mid + m - b : Nat) : Int)) ∨ (decide ((mid : Int) < (m : Int)) = false ∧ ¬ (mid : Int) < (m : Int) ∧ m ≤ mid) := by
    by_cases h : mid < m
    · exact .inl ⟨decide_eq_true (by omega), by omega, by omega⟩
    · exact .inr ⟨decide_eq_false (by omega), by omega, by omega⟩
  rcases hside with ⟨e1, e2, e3⟩ | ⟨e1, e2, e3⟩
  all_goals
    go_enter Tryz.func104, Tryz.ntmps104
    go_wp2
    go_loopw [20, 21] (fun vs vr wr => ∃ s r : Nat, vs = .int .i64 (s : Int) ∧ vr = .int .i64 (r : Int) ∧ a ≤ s ∧ s ≤ r ∧ r ≤ m ∧ r ≤ mid ∧ mid ≤ s + ly ∧ RowKit.Hid (s = a ∨ mid - s = ly ∨ kc keyP X[s - a - 1]! Y[mid - s]! ≤ 0) ∧ RowKit.Hid (r = m ∨ r = mid ∨ kc keyP Y[mid - r - 1]! X[r - a]! < 0) ∧ RowKit.Hid (SP4 w0 blk T wr)) (fun vs vr _ => (intOf vr).toNat - (intOf vs).toNat)
    case atStart =>
      first
      | exact ⟨mid + m - b, mid, by go_num, rfl, by omega, by omega, by omega, by omega, by omega, .inr (.inl (by omega)), .inr (.inl rfl), HS⟩
      | exact ⟨a, m, rfl, rfl, by omega, by omega, by omega, by omega, by omega, .inl rfl, .inl rfl, HS⟩
    case round =>
      obtain ⟨s, r, rfl, rfl, h1, h2, h3, h4, h5, hL, hR, hsw⟩ := hrel
      by_cases hlt : s < r
      · have k1 : (s : Int) < (r : Int) := by omega
        obtain ⟨c, hc⟩ : ∃ c, (s + r) / 2 = c := ⟨_, rfl⟩
        have hcI : ((s : Int) + (r : Int)) / 2 = (c : Int) := by omega
        have hsc : s ≤ c := by omega
        have hcr : c < r := by omega
        obtain ⟨q, hq⟩ : ∃ q, mid + m - 1 - c = q := ⟨_, rfl⟩
        have hqI : (mid : Int) + (m : Int) - 1 - (c : Int) = (q : Int) := by omega
        have hqw : IntKind.i64.wrap ((mid : Int) + (m : Int) - 1 - (c : Int)) = (q : Int) := by rw [IntKind.wrap_i64]; omega
        have hqw2 : IntKind.i64.wrap (q : Int) = (q : Int) := by rw [IntKind.wrap_i64]; omega
        obtain ⟨x, hx⟩ : ∃ x, Y[mid - 1 - c]! = x := ⟨_, rfl⟩
        obtain ⟨y, hy⟩ : ∃ y, X[c - a]! = y := ⟨_, rfl⟩
        have hTq : T.toArray[q]! = x := by
          have := HTY.out (mid - 1 - c) (by omega)
          rwa [show m + (mid - 1 - c) = q by omega, hx] at this
        have hTc : T.toArray[c]! = y := by
          have := HTX.out (c - a) (by omega)
          rwa [show a + (c - a) = c by omega, hy] at this
        have HLo : RowKit.Hid (¬ kc keyP x y < 0 → (c + 1 = a ∨ mid - (c + 1) = ly ∨ kc keyP X[c + 1 - a - 1]! Y[mid - (c + 1)]! ≤ 0)) := by
          intro h0
          refine .inr (.inr ?_)
          rw [show c + 1 - a - 1 = c - a by omega, show mid - (c + 1) = mid - 1 - c by omega, hx, hy, kc_anti]
          omega
        have HHi : RowKit.Hid (kc keyP x y < 0 → (c = m ∨ c = mid ∨ kc keyP Y[mid - c - 1]! X[c - a]! < 0)) := by
          intro h0
          refine .inr (.inr ?_)
          rw [show mid - c - 1 = mid - 1 - c by omega, hx, hy]
          exact h0
        have k1 := SP4.cmp HR.out hsw.out (by rw [hd, hTl]) q (by rw [hTl]; omega) x hTq
        have k2 := SP4.cmp HR.out hsw.out (by rw [hd, hTl]) c (by rw [hTl]; omega) y hTc
        have y0 := fun n os => (k1 n os).1
        have y1 := fun n os => (k1 n os).2.1
        have y2 := fun n os => (k1 n os).2.2.1
        have y3 := fun n os => (k1 n os).2.2.2
        have z0 := fun n os => (k2 n os).1
        have z1 := fun n os => (k2 n os).2.1
        have z2 := fun n os => (k2 n os).2.2.1
        have z3 := fun n os => (k2 n os).2.2.2
        have hcg := fun n os => closure_any x y (grow (wr.drewN n) os)
        unfold FVP at hcg
        clear k1 k2
        obtain ⟨cr, hcr'⟩ : ∃ cr, kc keyP x y = cr := ⟨_, rfl⟩
        rw [hcr'] at hcg
        have HKc := Lib.hid hcr'
        clear hcr'
        generalize S x.1.tag = p0 at *
        generalize S x.1.ind = p1 at *
        generalize x.2.1 = p2 at *
        generalize x.2.2.1 = p3 at *
        generalize x.2.2.2 = p4 at *
        generalize x.1.auth = p5 at *
        generalize S y.1.tag = q0 at *
        generalize S y.1.ind = q1 at *
        generalize y.2.1 = q2 at *
        generalize y.2.2.1 = q3 at *
        generalize y.2.2.2 = q4 at *
        generalize y.1.auth = q5 at *
        have i0 : (0 : Int) ≤ (q : Int) := by omega
        have i1 : (q : Int) < (N : Int) := by omega
        have i2 : (0 : Int) ≤ (c : Int) := by omega
        have i3 : (c : Int) < (N : Int) := by omega
        clear hx hy hTq hTc
        by_cases hr0 : cr < 0
        · have dr : decide (cr < 0) = true := decide_eq_true hr0
          have HHi2 := Lib.hid (HHi.out (by rw [HKc.out]; exact hr0))
          clear HLo
          go_wp2_with fail
          go_quiet_grown (first | (go_at_call 50; refine Calls.grown_of (hcg _ _)))
          have HS2 := Lib.hid (hsw.out.grown nq osq)
          go_wp2
          go_roundw
          case rel => exact ⟨s, c, rfl, rfl, h1, hsc, by omega, by omega, h5, hL, HHi2.out, HS2⟩
          case measure => simp [intOf]; omega
        · have dr : decide (cr < 0) = false := decide_eq_false hr0
          have HLo2 := Lib.hid (HLo.out (by rw [HKc.out]; exact hr0))
          clear HHi
          go_wp2_with fail
          go_quiet_grown (first | (go_at_call 50; refine Calls.grown_of (hcg _ _)))
          have HS2 := Lib.hid (hsw.out.grown nq osq)
          go_wp2
          go_roundw
          case rel => exact ⟨c + 1, r, by go_num, rfl, by omega, by omega, h3, h4, by omega, HLo2.out, hR, HS2⟩
          case measure => simp [intOf]; omega
      · obtain rfl : s = r := by omega
        have k1 : ¬ ((s : Int) < (s : Int)) := by omega
        have HStab := Lib.hid (HEnd.out s h1 h3 h4 h5 hL.out hR.out)
        obtain ⟨e, he⟩ : ∃ e, mid + m - s = e := ⟨_, rfl⟩
        have heI : (mid : Int) + (m : Int) - (s : Int) = (e : Int) := by omega
        have HSw := Lib.hid hsw.out
        have HNo1 := Lib.hid (HNo.out s h1 h3 h4 h5)
        have HRot1 := Lib.hid (HRot.out s h1)
        have HM11 := Lib.hid (fun p => HM1.out s p h3)
        have HN11 := Lib.hid (HN1.out s)
        have HM21 := Lib.hid (fun p => HM2.out s h1 p h4)
        have HN21 := Lib.hid (HN2.out s)
        have HL11 := Lib.hid (HL1.out s h1 h3 h4 h5)
        have HLD1 := Lib.hid (HLD.out s h1 h3 h4 h5)
        rw [he] at HRot1 HM21
        clear hL hR hsw HEnd HNo HRot HM1 HN1 HM2 HN2 HL1 HLD
        by_cases k2 : s < m ∧ s < mid
        · by_cases k3 : a < s ∧ s < mid
          · by_cases k4 : s < m ∧ mid < s + ly
            · have p1 : decide ((s : Int) < (m : Int)) = true := decide_eq_true (by omega)
              have p2 : decide ((m : Int) < (e : Int)) = true := decide_eq_true (by omega)
              have p3 : decide ((a : Int) < (s : Int)) = true := decide_eq_true (by omega)
              have p4 : decide ((s : Int) < (mid : Int)) = true := decide_eq_true (by omega)
              have p5 : decide ((mid : Int) < (e : Int)) = true := decide_eq_true (by omega)
              have p6 : decide ((e : Int) < (b : Int)) = true := decide_eq_true (by omega)
              have HC1 := Lib.hid (HRot1.out k2.1 k2.2 h5 wr HSw.out)
              go_wp2_with fail
              refine (HC1.out).mono ?_
              rintro _ w1 ⟨rfl, g1⟩
              have G1 := Lib.hid g1
              clear g1
              have HC2 := Lib.hid (HM11.out k3.1 k3.2 h5 _ HLD1.out w1 G1.out)
              go_wp2_with fail
              refine (HC2.out).mono ?_
              rintro _ w2 ⟨rfl, M1, m1, g2⟩
              have G2 := Lib.hid g2
              have G2s := Lib.hid m1
              clear g2 m1
              have HC3 := Lib.hid (HM21.out k4.1 k4.2 M1 (HL11.out M1 G2s.out) w2 G2.out)
              go_wp2_with fail
              refine (HC3.out).mono ?_
              rintro _ w3 ⟨rfl, M2, m2, g3⟩
              have G3 := Lib.hid g3
              have G3s := Lib.hid m2
              clear g3 m2
              go_wp2
              go_end0
              exact HQ.out _ _ (HStab.out M1 M2 G2s.out G3s.out) G3.out
            · have n3 : decide ((mid : Int) < (e : Int)) = false ∨ (decide ((mid : Int) < (e : Int)) = true ∧ decide ((e : Int) < (b : Int)) = false) := by
                by_cases h : s < m
                · exact .inr ⟨decide_eq_true (by omega), decide_eq_false (by omega)⟩
                · exact .inl (decide_eq_false (by omega))
              (rcases n3 with n3 | ⟨n3, n3'⟩)
              all_goals try (exfalso; have h := of_decide_eq_false n3; omega)
              all_goals try (exfalso; have h := of_decide_eq_true n3; have h' := of_decide_eq_false n3'; omega)
              all_goals
                have p1 : decide ((s : Int) < (m : Int)) = true := decide_eq_true (by omega)
                have p2 : decide ((m : Int) < (e : Int)) = true := decide_eq_true (by omega)
                have p3 : decide ((a : Int) < (s : Int)) = true := decide_eq_true (by omega)
                have p4 : decide ((s : Int) < (mid : Int)) = true := decide_eq_true (by omega)
                have HC1 := Lib.hid (HRot1.out k2.1 k2.2 h5 wr HSw.out)
                go_wp2_with fail
                refine (HC1.out).mono ?_
                rintro _ w1 ⟨rfl, g1⟩
                have G1 := Lib.hid g1
                clear g1
                have HC2 := Lib.hid (HM11.out k3.1 k3.2 h5 _ HLD1.out w1 G1.out)
                go_wp2_with fail
                refine (HC2.out).mono ?_
                rintro _ w2 ⟨rfl, M1, m1, g2⟩
                have G2 := Lib.hid g2
                have G2s := Lib.hid m1
                clear g2 m1
                obtain ⟨w3, rfl⟩ : ∃ w3 : World, w3 = w2 := ⟨_, rfl⟩
                obtain ⟨M2, hM2⟩ : ∃ M2, X.drop (s - a) ++ Y.drop (mid - s) = M2 := ⟨_, rfl⟩
                have G3s := Lib.hid (HN21.out (by omega))
                have G3 : RowKit.Hid (SP4 w0 blk (A ++ ((M1 ++ M2) ++ C)) w3) := by
                  rw [← hM2, List.append_assoc M1, List.append_assoc (X.drop (s - a))]
                  exact G2.out
                have G3s : RowKit.Hid (Stab keyP M2 (X.drop (s - a) ++ Y.drop (mid - s))) := by
                  have := G3s.out
                  rw [hM2] at this ⊢
                  exact this
                clear hM2
                go_wp2
                go_end0
                exact HQ.out _ _ (HStab.out M1 M2 G2s.out G3s.out) G3.out
          · by_cases k4 : s < m ∧ mid < s + ly
            · have n2 : decide ((a : Int) < (s : Int)) = false ∨ (decide ((a : Int) < (s : Int)) = true ∧ decide ((s : Int) < (mid : Int)) = false) := by
                by_cases h : a < s
                · exact .inr ⟨decide_eq_true (by omega), decide_eq_false (by omega)⟩
                · exact .inl (decide_eq_false (by omega))
              (rcases n2 with n2 | ⟨n2, n2'⟩)
              all_goals try (exfalso; have h := of_decide_eq_false n2; omega)
              all_goals try (exfalso; have h := of_decide_eq_true n2; have h' := of_decide_eq_false n2'; omega)
              all_goals
                have p1 : decide ((s : Int) < (m : Int)) = true := decide_eq_true (by omega)
                have p2 : decide ((m : Int) < (e : Int)) = true := decide_eq_true (by omega)
                have p5 : decide ((mid : Int) < (e : Int)) = true := decide_eq_true (by omega)
                have p6 : decide ((e : Int) < (b : Int)) = true := decide_eq_true (by omega)
                have HC1 := Lib.hid (HRot1.out k2.1 k2.2 h5 wr HSw.out)
                go_wp2_with fail
                refine (HC1.out).mono ?_
                rintro _ w1 ⟨rfl, g1⟩
                have G1 := Lib.hid g1
                clear g1
                obtain ⟨w2, rfl⟩ : ∃ w2 : World, w2 = w1 := ⟨_, rfl⟩
                obtain ⟨M1, hM1⟩ : ∃ M1, X.take (s - a) ++ Y.take (mid - s) = M1 := ⟨_, rfl⟩
                have G2s := Lib.hid (HN11.out (by omega))
                have G2 : RowKit.Hid (SP4 w0 blk (A ++ (M1 ++ (X.drop (s - a) ++ (Y.drop (mid - s) ++ C)))) w2) := by
                  rw [← hM1, List.append_assoc (X.take (s - a))]
                  exact G1.out
                have G2s : RowKit.Hid (Stab keyP M1 (X.take (s - a) ++ Y.take (mid - s))) := by
                  have := G2s.out
                  rw [hM1] at this ⊢
                  exact this
                clear hM1
                have HC3 := Lib.hid (HM21.out k4.1 k4.2 M1 (HL11.out M1 G2s.out) w2 G2.out)
                go_wp2_with fail
                refine (HC3.out).mono ?_
                rintro _ w3 ⟨rfl, M2, m2, g3⟩
                have G3 := Lib.hid g3
                have G3s := Lib.hid m2
                clear g3 m2
                go_wp2
                go_end0
                exact HQ.out _ _ (HStab.out M1 M2 G2s.out G3s.out) G3.out
            · have n2 : decide ((a : Int) < (s : Int)) = false ∨ (decide ((a : Int) < (s : Int)) = true ∧ decide ((s : Int) < (mid : Int)) = false) := by
                by_cases h : a < s
                · exact .inr ⟨decide_eq_true (by omega), decide_eq_false (by omega)⟩
                · exact .inl (decide_eq_false (by omega))
              have n3 : decide ((mid : Int) < (e : Int)) = false ∨ (decide ((mid : Int) < (e : Int)) = true ∧ decide ((e : Int) < (b : Int)) = false) := by
                by_cases h : s < m
                · exact .inr ⟨decide_eq_true (by omega), decide_eq_false (by omega)⟩
                · exact .inl (decide_eq_false (by omega))
              (rcases n2 with n2 | ⟨n2, n2'⟩) <;> (rcases n3 with n3 | ⟨n3, n3'⟩)
              all_goals try (exfalso; have h := of_decide_eq_false n2; omega)
              all_goals try (exfalso; have h := of_decide_eq_true n2; have h' := of_decide_eq_false n2'; omega)
              all_goals try (exfalso; have h := of_decide_eq_false n3; omega)
              all_goals try (exfalso; have h := of_decide_eq_true n3; have h' := of_decide_eq_false n3'; omega)
              all_goals
                have p1 : decide ((s : Int) < (m : Int)) = true := decide_eq_true (by omega)
                have p2 : decide ((m : Int) < (e : Int)) = true := decide_eq_true (by omega)
                have HC1 := Lib.hid (HRot1.out k2.1 k2.2 h5 wr HSw.out)
                go_wp2_with fail
                refine (HC1.out).mono ?_
                rintro _ w1 ⟨rfl, g1⟩
                have G1 := Lib.hid g1
                clear g1
                obtain ⟨w2, rfl⟩ : ∃ w2 : World, w2 = w1 := ⟨_, rfl⟩
                obtain ⟨M1, hM1⟩ : ∃ M1, X.take (s - a) ++ Y.take (mid - s) = M1 := ⟨_, rfl⟩
                have G2s := Lib.hid (HN11.out (by omega))
                have G2 : RowKit.Hid (SP4 w0 blk (A ++ (M1 ++ (X.drop (s - a) ++ (Y.drop (mid - s) ++ C)))) w2) := by
                  rw [← hM1, List.append_assoc (X.take (s - a))]
                  exact G1.out
                have G2s : RowKit.Hid (Stab keyP M1 (X.take (s - a) ++ Y.take (mid - s))) := by
                  have := G2s.out
                  rw [hM1] at this ⊢
                  exact this
                clear hM1
                obtain ⟨w3, rfl⟩ : ∃ w3 : World, w3 = w2 := ⟨_, rfl⟩
                obtain ⟨M2, hM2⟩ : ∃ M2, X.drop (s - a) ++ Y.drop (mid - s) = M2 := ⟨_, rfl⟩
                have G3s := Lib.hid (HN21.out (by omega))
                have G3 : RowKit.Hid (SP4 w0 blk (A ++ ((M1 ++ M2) ++ C)) w3) := by
                  rw [← hM2, List.append_assoc M1, List.append_assoc (X.drop (s - a))]
                  exact G2.out
                have G3s : RowKit.Hid (Stab keyP M2 (X.drop (s - a) ++ Y.drop (mid - s))) := by
                  have := G3s.out
                  rw [hM2] at this ⊢
                  exact this
                clear hM2
                go_wp2
                go_end0
                exact HQ.out _ _ (HStab.out M1 M2 G2s.out G3s.out) G3.out
        · by_cases k3 : a < s ∧ s < mid
          · by_cases k4 : s < m ∧ mid < s + ly
            · have n1 : decide ((s : Int) < (m : Int)) = false ∨ (decide ((s : Int) < (m : Int)) = true ∧ decide ((m : Int) < (e : Int)) = false) := by
                by_cases h : s < m
                · exact .inr ⟨decide_eq_true (by omega), decide_eq_false (by omega)⟩
                · exact .inl (decide_eq_false (by omega))
              (rcases n1 with n1 | ⟨n1, n1'⟩)
              all_goals try (exfalso; have h := of_decide_eq_false n1; omega)
              all_goals try (exfalso; have h := of_decide_eq_true n1; have h' := of_decide_eq_false n1'; omega)
              all_goals
                have p3 : decide ((a : Int) < (s : Int)) = true := decide_eq_true (by omega)
                have p4 : decide ((s : Int) < (mid : Int)) = true := decide_eq_true (by omega)
                have p5 : decide ((mid : Int) < (e : Int)) = true := decide_eq_true (by omega)
                have p6 : decide ((e : Int) < (b : Int)) = true := decide_eq_true (by omega)
                obtain ⟨w1, rfl⟩ : ∃ w1 : World, w1 = wr := ⟨_, rfl⟩
                have G1 := Lib.hid (HNo1.out (by omega) w1 HSw.out)
                have HC2 := Lib.hid (HM11.out k3.1 k3.2 h5 _ HLD1.out w1 G1.out)
                go_wp2_with fail
                refine (HC2.out).mono ?_
                rintro _ w2 ⟨rfl, M1, m1, g2⟩
                have G2 := Lib.hid g2
                have G2s := Lib.hid m1
                clear g2 m1
                have HC3 := Lib.hid (HM21.out k4.1 k4.2 M1 (HL11.out M1 G2s.out) w2 G2.out)
                go_wp2_with fail
                refine (HC3.out).mono ?_
                rintro _ w3 ⟨rfl, M2, m2, g3⟩
                have G3 := Lib.hid g3
                have G3s := Lib.hid m2
                clear g3 m2
                go_wp2
                go_end0
                exact HQ.out _ _ (HStab.out M1 M2 G2s.out G3s.out) G3.out
            · have n1 : decide ((s : Int) < (m : Int)) = false ∨ (decide ((s : Int) < (m : Int)) = true ∧ decide ((m : Int) < (e : Int)) = false) := by
                by_cases h : s < m
                · exact .inr ⟨decide_eq_true (by omega), decide_eq_false (by omega)⟩
                · exact .inl (decide_eq_false (by omega))
              have n3 : decide ((mid : Int) < (e : Int)) = false ∨ (decide ((mid : Int) < (e : Int)) = true ∧ decide ((e : Int) < (b : Int)) = false) := by
                by_cases h : s < m
                · exact .inr ⟨decide_eq_true (by omega), decide_eq_false (by omega)⟩
                · exact .inl (decide_eq_false (by omega))
              (rcases n1 with n1 | ⟨n1, n1'⟩) <;> (rcases n3 with n3 | ⟨n3, n3'⟩)
              all_goals try (exfalso; have h := of_decide_eq_false n1; omega)
              all_goals try (exfalso; have h := of_decide_eq_true n1; have h' := of_decide_eq_false n1'; omega)
              all_goals try (exfalso; have h := of_decide_eq_false n3; omega)
              all_goals try (exfalso; have h := of_decide_eq_true n3; have h' := of_decide_eq_false n3'; omega)
              all_goals
                have p3 : decide ((a : Int) < (s : Int)) = true := decide_eq_true (by omega)
                have p4 : decide ((s : Int) < (mid : Int)) = true := decide_eq_true (by omega)
                obtain ⟨w1, rfl⟩ : ∃ w1 : World, w1 = wr := ⟨_, rfl⟩
                have G1 := Lib.hid (HNo1.out (by omega) w1 HSw.out)
                have HC2 := Lib.hid (HM11.out k3.1 k3.2 h5 _ HLD1.out w1 G1.out)
                go_wp2_with fail
                refine (HC2.out).mono ?_
                rintro _ w2 ⟨rfl, M1, m1, g2⟩
                have G2 := Lib.hid g2
                have G2s := Lib.hid m1
                clear g2 m1
                obtain ⟨w3, rfl⟩ : ∃ w3 : World, w3 = w2 := ⟨_, rfl⟩
                obtain ⟨M2, hM2⟩ : ∃ M2, X.drop (s - a) ++ Y.drop (mid - s) = M2 := ⟨_, rfl⟩
                have G3s := Lib.hid (HN21.out (by omega))
                have G3 : RowKit.Hid (SP4 w0 blk (A ++ ((M1 ++ M2) ++ C)) w3) := by
                  rw [← hM2, List.append_assoc M1, List.append_assoc (X.drop (s - a))]
                  exact G2.out
                have G3s : RowKit.Hid (Stab keyP M2 (X.drop (s - a) ++ Y.drop (mid - s))) := by
                  have := G3s.out
                  rw [hM2] at this ⊢
                  exact this
                clear hM2
                go_wp2
                go_end0
                exact HQ.out _ _ (HStab.out M1 M2 G2s.out G3s.out) G3.out
          · by_cases k4 : s < m ∧ mid < s + ly
            · have n1 : decide ((s : Int) < (m : Int)) = false ∨ (decide ((s : Int) < (m : Int)) = true ∧ decide ((m : Int) < (e : Int)) = false) := by
                by_cases h : s < m
                · exact .inr ⟨decide_eq_true (by omega), decide_eq_false (by omega)⟩
                · exact .inl (decide_eq_false (by omega))
              have n2 : decide ((a : Int) < (s : Int)) = false ∨ (decide ((a : Int) < (s : Int)) = true ∧ decide ((s : Int) < (mid : Int)) = false) := by
                by_cases h : a < s
                · exact .inr ⟨decide_eq_true (by omega), decide_eq_false (by omega)⟩
                · exact .inl (decide_eq_false (by omega))
              (rcases n1 with n1 | ⟨n1, n1'⟩) <;> (rcases n2 with n2 | ⟨n2, n2'⟩)
              all_goals try (exfalso; have h := of_decide_eq_false n1; omega)
              all_goals try (exfalso; have h := of_decide_eq_true n1; have h' := of_decide_eq_false n1'; omega)
              all_goals try (exfalso; have h := of_decide_eq_false n2; omega)
              all_goals try (exfalso; have h := of_decide_eq_true n2; have h' := of_decide_eq_false n2'; omega)
              all_goals
                have p5 : decide ((mid : Int) < (e : Int)) = true := decide_eq_true (by omega)
                have p6 : decide ((e : Int) < (b : Int)) = true := decide_eq_true (by omega)
                obtain ⟨w1, rfl⟩ : ∃ w1 : World, w1 = wr := ⟨_, rfl⟩
                have G1 := Lib.hid (HNo1.out (by omega) w1 HSw.out)
                obtain ⟨w2, rfl⟩ : ∃ w2 : World, w2 = w1 := ⟨_, rfl⟩
                obtain ⟨M1, hM1⟩ : ∃ M1, X.take (s - a) ++ Y.take (mid - s) = M1 := ⟨_, rfl⟩
                have G2s := Lib.hid (HN11.out (by omega))
                have G2 : RowKit.Hid (SP4 w0 blk (A ++ (M1 ++ (X.drop (s - a) ++ (Y.drop (mid - s) ++ C)))) w2) := by
                  rw [← hM1, List.append_assoc (X.take (s - a))]
                  exact G1.out
                have G2s : RowKit.Hid (Stab keyP M1 (X.take (s - a) ++ Y.take (mid - s))) := by
                  have := G2s.out
                  rw [hM1] at this ⊢
                  exact this
                clear hM1
                have HC3 := Lib.hid (HM21.out k4.1 k4.2 M1 (HL11.out M1 G2s.out) w2 G2.out)
                go_wp2_with fail
                refine (HC3.out).mono ?_
                rintro _ w3 ⟨rfl, M2, m2, g3⟩
                have G3 := Lib.hid g3
                have G3s := Lib.hid m2
                clear g3 m2
                go_wp2
                go_end0
                exact HQ.out _ _ (HStab.out M1 M2 G2s.out G3s.out) G3.out
            · have n1 : decide ((s : Int) < (m : Int)) = false ∨ (decide ((s : Int) < (m : Int)) = true ∧ decide ((m : Int) < (e : Int)) = false) := by
                by_cases h : s < m
                · exact .inr ⟨decide_eq_true (by omega), decide_eq_false (by omega)⟩
                · exact .inl (decide_eq_false (by omega))
              have n2 : decide ((a : Int) < (s : Int)) = false ∨ (decide ((a : Int) < (s : Int)) = true ∧ decide ((s : Int) < (mid : Int)) = false) := by
                by_cases h : a < s
                · exact .inr ⟨decide_eq_true (by omega), decide_eq_false (by omega)⟩
                · exact .inl (decide_eq_false (by omega))
              have n3 : decide ((mid : Int) < (e : Int)) = false ∨ (decide ((mid : Int) < (e : Int)) = true ∧ decide ((e : Int) < (b : Int)) = false) := by
                by_cases h : s < m
                · exact .inr ⟨decide_eq_true (by omega), decide_eq_false (by omega)⟩
                · exact .inl (decide_eq_false (by omega))
              (rcases n1 with n1 | ⟨n1, n1'⟩) <;> (rcases n2 with n2 | ⟨n2, n2'⟩) <;> (rcases n3 with n3 | ⟨n3, n3'⟩)
              all_goals try (exfalso; have h := of_decide_eq_false n1; omega)
              all_goals try (exfalso; have h := of_decide_eq_true n1; have h' := of_decide_eq_false n1'; omega)
              all_goals try (exfalso; have h := of_decide_eq_false n2; omega)
              all_goals try (exfalso; have h := of_decide_eq_true n2; have h' := of_decide_eq_false n2'; omega)
              all_goals try (exfalso; have h := of_decide_eq_false n3; omega)
              all_goals try (exfalso; have h := of_decide_eq_true n3; have h' := of_decide_eq_false n3'; omega)
              all_goals
                obtain ⟨w1, rfl⟩ : ∃ w1 : World, w1 = wr := ⟨_, rfl⟩
                have G1 := Lib.hid (HNo1.out (by omega) w1 HSw.out)
                obtain ⟨w2, rfl⟩ : ∃ w2 : World, w2 = w1 := ⟨_, rfl⟩
                obtain ⟨M1, hM1⟩ : ∃ M1, X.take (s - a) ++ Y.take (mid - s) = M1 := ⟨_, rfl⟩
                have G2s := Lib.hid (HN11.out (by omega))
                have G2 : RowKit.Hid (SP4 w0 blk (A ++ (M1 ++ (X.drop (s - a) ++ (Y.drop (mid - s) ++ C)))) w2) := by
                  rw [← hM1, List.append_assoc (X.take (s - a))]
                  exact G1.out
                have G2s : RowKit.Hid (Stab keyP M1 (X.take (s - a) ++ Y.take (mid - s))) := by
                  have := G2s.out
                  rw [hM1] at this ⊢
                  exact this
                clear hM1
                obtain ⟨w3, rfl⟩ : ∃ w3 : World, w3 = w2 := ⟨_, rfl⟩
                obtain ⟨M2, hM2⟩ : ∃ M2, X.drop (s - a) ++ Y.drop (mid - s) = M2 := ⟨_, rfl⟩
                have G3s := Lib.hid (HN21.out (by omega))
                have G3 : RowKit.Hid (SP4 w0 blk (A ++ ((M1 ++ M2) ++ C)) w3) := by
                  rw [← hM2, List.append_assoc M1, List.append_assoc (X.drop (s - a))]
                  exact G2.out
                have G3s : RowKit.Hid (Stab keyP M2 (X.drop (s - a) ++ Y.drop (mid - s))) := by
                  have := G3s.out
                  rw [hM2] at this ⊢
                  exact this
                clear hM2
                go_wp2
                go_end0
                exact HQ.out _ _ (HStab.out M1 M2 G2s.out G3s.out) G3.out

theorem merges_all (w0 : World) (blk N cap : Nat) (d0 : Array FU) (hd : d0.size = N) (hN : N ≤ 100000) (R : RowK encP 4 w0 blk 0 d0) : ∀ (n : Nat) (X Y : List FU), X.length + Y.length ≤ n → Merges w0 blk N cap X Y
  | 0, X, Y, h => by
    intro A C a m b h1 h2 h3 h4 h5 h6
    omega
  | n + 1, X, Y, h => by
    by_cases hX : 2 ≤ X.length
    · by_cases hY : 2 ≤ Y.length
      · exact merge_parts w0 blk N cap d0 hd hN R X Y hX hY fun U V hlt => merges_all w0 blk N cap d0 hd hN R n U V (by omega)
      · intro A C a m b ha hm hb hl h5 h6 hsX hsY w hS
        obtain ⟨y, rfl⟩ : ∃ y, Y = [y] := by
          match Y, h6, hY with
          | [y], _, _ => exact ⟨y, rfl⟩
          | _ :: _ :: _, _, hY => simp at hY
        obtain rfl : b = m + 1 := by simpa using hb.symm
        exact merge_last w0 blk N cap d0 hd hN R A X y C a m ha hm (by omega) hX hsX w hS
    · intro A C a m b ha hm hb hl h5 h6 hsX hsY w hS
      obtain ⟨x, rfl⟩ : ∃ x, X = [x] := by
        match X, h5, hX with
        | [x], _, _ => exact ⟨x, rfl⟩
        | _ :: _ :: _, _, hX => simp at hX
      obtain rfl : m = a + 1 := by simpa using hm.symm
      exact merge_one w0 blk N cap d0 hd hN R A x Y C a b ha hb hl hsY w hS
end

end Go.Proofs.YtcnjjdbpcobolaaGreatDoor
