/- Package field: slices.DeleteFunc with coded's function, over a row of the call's own. -/
import Derived.Test.YtjajihemcaihmaaGreatDoorFG07
import Derived.Deep.RegionHeld
namespace Go.Proofs.YtjajihemcaihmaaGreatDoor
open Go.RowKit Go.PlainAid

set_option maxHeartbeats 16000000 in
set_option maxRecDepth 100000 in
theorem delete_any (B : Nat) (L : List Sub) (v : Value) (c : UInt8) (b : Nat) (w : World) (hown : w.ownsRow B 32 2 v L.length (cellsL L)) (hB : B ≤ w.heap.size) (hb : b < w.heap.size) (hbc : w.cell? ⟨b, 0, none⟩ = some (.int .u8 (c.toNat : Int)))
    (hne : ∀ g n cap, v = .slice (some ⟨g, 0, none⟩) n cap → g ≠ b) (hs : L.length ≤ 100000) :
    Calls Tryz.prog 30 #[v, .func (.func 43) #[] #[.pointer (some ⟨b, 0, none⟩)]] w fun e w' => ∃ v', e = .returned v' ∧ w'.ownsRow B 32 2 v' (keepL c L).length (cellsL (keepL c L)) ∧ Below B w w' := by
  have hq := QL.of_row hown
  have hcl : CL c (.func (.func 43) #[] #[.pointer (some ⟨b, 0, none⟩)]) w := ⟨b, rfl, hb, hbc⟩
  rcases first_code L c with hall | ⟨k, hk, hj, he⟩
  · have cI := Lib.hid (index_miss L v _ w hq c hcl hall)
    rw [keepL_all c L hall]
    have HOwn := Lib.hid hown
    obtain ⟨ao, cp, rfl⟩ := own_form hown
    clear hown hq hcl hall hbc hne
    generalize L.length = n at *
    go_enter Tryz.func30, Tryz.ntmps30
    go_wp2_with fail
    refine cI.out.mono ?_
    rintro e w1 ⟨rfl, h1⟩
    have hown1 := own_after HOwn.out h1
    have hb1 := h1.mono hB
    go_wp2
    go_ret
    exact ⟨_, rfl, hown1, hb1⟩
  · have cI := Lib.hid (index_hit L v _ w hq c hcl k hk hj he)
    have HKI := Lib.hid (KI.start c L k hk hj he)
    obtain ⟨g, cap, rfl⟩ : ∃ g cap, v = .slice (some ⟨g, 0, none⟩) L.length cap := by
      rcases hown.2 with ⟨_, h0⟩ | ⟨g, cap, cur, hv, _⟩
      · omega
      · exact ⟨g, cap, hv⟩
    have hgb := hne _ _ _ rfl
    obtain ⟨hBg, hg, hnc, hcm, _, _⟩ := own_facts hown
    unfold maxLen at hcm
    have HOwn := Lib.hid hown
    obtain ⟨n, hn⟩ : ∃ n, L.length = n := ⟨_, rfl⟩
    have HN := Lib.hid hn
    rw [hn] at hk hs hnc cI HOwn ⊢
    have t1 : ((k : Int) == -1) = false := beq_eq_false_iff_ne.2 (by omega)
    clear hown hq hcl hj he hn hne
    go_enter Tryz.func30, Tryz.ntmps30
    go_wp2_with fail
    refine cI.out.mono ?_
    rintro e w1 ⟨rfl, h1⟩
    have hown1 := own_after HOwn.out h1
    have hb1 := h1.mono hB
    have hbc1 := (h1.cell (p := ⟨b, 0, none⟩) hb).trans hbc
    have hlb1 := Nat.lt_of_lt_of_le hb h1.size
    have hB1 := Nat.le_trans hB h1.size
    clear hbc HOwn cI h1
    go_wp2
    go_loopw [5, 6, 7] (fun s5 s6 _ wr => ∃ (i j : Nat) (M : List Sub), s5 = .int .i64 (i : Int) ∧ s6 = .int .i64 (j : Int) ∧ KI c L i j M ∧ wr.ownsRow B 32 2 (.slice (some ⟨g, 0, none⟩) n cap) n (cellsL M) ∧ Below B w wr ∧ wr.cell? ⟨b, 0, none⟩ = some (.int .u8 (c.toNat : Int)) ∧ b < wr.heap.size ∧ B ≤ wr.heap.size) (fun _ s6 _ _ => n - (intOf s6).toNat)
    case atStart => exact ⟨k, k + 1, L, rfl, by go_num, HKI.out, hown1, hb1, hbc1, hlb1, hB1⟩
    case round =>
      obtain ⟨i, j, M, rfl, rfl, hKI, hown, hbw, hbc, hlb, hBw⟩ := hrel
      have hlen := hKI.len
      have hij := hKI.lt
      have hjn := hKI.le
      rw [HN.out] at hlen hjn
      obtain ⟨_, hgw, _, _, hfz, hsome⟩ := own_facts hown
      by_cases hlt : j < n
      · have hcj := cellsL_at M j (by omega)
        rw [hKI.high j (Nat.le_refl _) (by rw [HN.out]; exact hlt)] at hcj
        have e1 := hown.cells (g := g) rfl _ _ hcj.1
        have e2 := hown.cells (g := g) rfl _ _ hcj.2
        have hadd : ∀ p, (⟨g, 0, none⟩ : Addr).add p = ⟨g, p, none⟩ := fun p => by unfold Addr.add; split <;> simp_all
        rw [hadd] at e1 e2
        have i1 : (0 : Int) ≤ (j : Int) := by omega
        have i2 : (j : Int) < (n : Int) := by omega
        have i3 : (0 : Int) ≤ (i : Int) := by omega
        have i4 : (i : Int) < (n : Int) := by omega
        have HSkip := Lib.hid (fun h => hKI.skip (by rw [HN.out]; exact hlt) h)
        have HKeep := Lib.hid (fun h => hKI.keep (by rw [HN.out]; exact hlt) h)
        have HSet := Lib.hid (cellsL_set M i (L.getD j sub0) (by omega))
        obtain ⟨sb, hsb⟩ : ∃ z, L.getD j sub0 = z := ⟨_, rfl⟩
        rw [hsb] at e1 e2 HSkip HKeep HSet
        have ha := (Below.refl wr.heap.size wr).alloc (Nat.le_refl _) (.cells #[.int .u8 (sb.1.toNat : Int), .string (S sb.2)] 32)
        obtain ⟨wa, hwa⟩ : ∃ wa, wr.alloc (.cells #[.int .u8 (sb.1.toNat : Int), .string (S sb.2)] 32) = wa := ⟨_, rfl⟩
        have hbx : wa.cell? ⟨wr.heap.size, 0, none⟩ = some (.int .u8 (sb.1.toNat : Int)) ∧ wa.cell? ⟨wr.heap.size, 1, none⟩ = some (.string (S sb.2)) ∧ wr.heap.size < wa.heap.size := by rw [← hwa]; simp
        rw [hwa] at ha
        have HWA := Lib.hid hwa
        have HA := Lib.hid ha
        have HBX := Lib.hid hbx
        have HOwn := Lib.hid (own_after hown ha)
        have hbca := (ha.cell (p := ⟨b, 0, none⟩) hlb).trans hbc
        have hlba := Nat.lt_of_lt_of_le hlb ha.size
        have cC := Lib.hid (fun r hr => codedIn_any c sb b wa hlba hbca r hr)
        clear hsb hwa ha hbx hown hKI hfz hsome hbc
        by_cases hc : sb.1 = c
        · have cC := Lib.hid (cC.out true (decide_eq_true hc))
          have HS := Lib.hid (HSkip.out hc)
          clear hc HSkip HKeep HSet
          generalize ((sb.1.toNat : Nat) : Int) = y at *
          generalize S sb.2 = x at *
          go_wp2_with fail
          rw [HWA.out]
          refine cC.out.mono ?_
          rintro e w5 ⟨rfl, h5⟩
          have hown5 := own_after HOwn.out h5
          have hb5 := hbw.trans ((HA.out.trans (h5.mono HA.out.size)).mono hBw)
          have hbc5 := (h5.cell (p := ⟨b, 0, none⟩) hlba).trans hbca
          have hlb5 := Nat.lt_of_lt_of_le hlba h5.size
          have hB5 := Nat.le_trans hBw (Nat.le_trans HA.out.size h5.size)
          clear h5 hbca
          go_wp2
          go_roundw
          case rel => exact ⟨i, j + 1, M, rfl, by go_num, HS.out, hown5, hb5, hbc5, hlb5, hB5⟩
          case measure => simp [intOf]; omega
        · have cC := Lib.hid (cC.out false (decide_eq_false hc))
          have HK := Lib.hid (HKeep.out hc)
          clear hc HSkip HKeep
          obtain ⟨y, hy⟩ : ∃ y, ((sb.1.toNat : Nat) : Int) = y := ⟨_, rfl⟩
          obtain ⟨x, hx⟩ : ∃ x, S sb.2 = x := ⟨_, rfl⟩
          rw [hy] at cC HWA HBX HSet e1
          rw [hx] at cC HWA HBX HSet e2
          clear hy hx
          go_wp2_with fail
          rw [HWA.out]
          refine cC.out.mono ?_
          rintro e w5 ⟨rfl, h5⟩
          have hown5 := own_after HOwn.out h5
          have hb5 := hbw.trans ((HA.out.trans (h5.mono HA.out.size)).mono hBw)
          have hbc5 := (h5.cell (p := ⟨b, 0, none⟩) hlba).trans hbca
          have hlb5 := Nat.lt_of_lt_of_le hlba h5.size
          have hB5 := Nat.le_trans hBw (Nat.le_trans HA.out.size h5.size)
          have x1 := (h5.cell (p := ⟨wr.heap.size, 0, none⟩) HBX.out.2.2).trans HBX.out.1
          have x2 := (h5.cell (p := ⟨wr.heap.size, 1, none⟩) HBX.out.2.2).trans HBX.out.2.1
          obtain ⟨_, _, _, _, hfz, hsome⟩ := own_facts hown5
          have f1 := hfz (i * 2)
          have f2 := hfz (i * 2 + 1)
          obtain ⟨z1, hz1⟩ := Option.isSome_iff_exists.1 (hsome (i * 2) (by omega))
          obtain ⟨z2, hz2⟩ := Option.isSome_iff_exists.1 (hsome (i * 2 + 1) (by omega))
          have hnew := own_set (own_set hown5 (p := i * 2) (.int .u8 y)) (p := i * 2 + 1) (.string x)
          rw [← HSet.out] at hnew
          have hbn := (hb5.setCell (p := ⟨g, i * 2, none⟩) hBg (.int .u8 y)).setCell (p := ⟨g, i * 2 + 1, none⟩) hBg (.string x)
          have hbcn : ((w5.setCell ⟨g, i * 2, none⟩ (.int .u8 y)).setCell ⟨g, i * 2 + 1, none⟩ (.string x)).cell? ⟨b, 0, none⟩ = some (.int .u8 (c.toNat : Int)) := by
            rw [World.cell?_setCell_far _ _ _ _ hgb, World.cell?_setCell_far _ _ _ _ hgb]
            exact hbc5
          have hsz2 : ((w5.setCell ⟨g, i * 2, none⟩ (.int .u8 y)).setCell ⟨g, i * 2 + 1, none⟩ (.string x)).heap.size = w5.heap.size := by simp [World.setCell]
          have Hnew := Lib.hid hnew
          have Hbn := Lib.hid hbn
          have Hbcn := Lib.hid hbcn
          have HSz := Lib.hid hsz2
          clear h5 hbca hown5 hb5 hbc5 hnew hbn hbcn hfz hsome hsz2
          go_wp2
          go_roundw
          case rel => exact ⟨i + 1, j + 1, M.set i sb, by go_num, by go_num, HK.out, Hnew.out, Hbn.out, Hbcn.out, by rw [HSz.out]; exact hlb5, by rw [HSz.out]; exact hB5⟩
          case measure => simp [intOf]; omega
      · obtain rfl : j = n := by omega
        have hfull : M.take i = keepL c L := by
          rw [hKI.low, ← HN.out, List.take_length]
        have hil : (keepL c L).length = i := by rw [← hfull, List.length_take]; omega
        obtain ⟨zs, hzl, hrun⟩ := run_clear wr g (i * 2) (j - i) (cap - i) (by omega) (fun p hp => hsome _ (by omega)) (fun p _ => hfz _)
        obtain ⟨ys, hy1, hy2⟩ := own_setCells zs (i * 2) wr (cellsL M) hown (by omega)
        have hfin := own_shrink (i := i) hy1 (by omega)
        rw [hy2, cellsL_take, hfull, ← hil] at hfin
        rw [hil] at hfin
        have Hfin := Lib.hid hfin
        have Hbf := Lib.hid (setCells_below hBg zs (i * 2) w wr hbw)
        have HIL := Lib.hid hil
        have hci : ¬ cap = i := by omega
        have i3 : (0 : Int) ≤ (i : Int) := by omega
        have i4 : (i : Int) ≤ (j : Int) := by omega
        have i5 : (i : Int) ≤ (cap : Int) := by omega
        clear hown hKI hfz hsome hbc hfin hy1 hy2 hbw hfull hil
        go_wp2
        go_ret
        refine ⟨_, rfl, ?_, Hbf.out⟩
        rw [HIL.out]
        exact Hfin.out
end Go.Proofs.YtjajihemcaihmaaGreatDoor
