/- libraryref06: Next. -/
import Derived.Test.YtdaoccmhehekaaaDoorR06D
import Derived.Deep.RegionLaw
import Derived.Deep.AppendLies
namespace Go.Proofs.YtdaoccmhehekaaaDoor
open Go.RowKit Go.PlainAid

theorem next_take (L : List (List UInt8)) (k : Nat) (h : k < (L.length + 1) / 2) : (nextL L).take (k + 1) = (nextL L).take k ++ [node L k] := by
  rw [take_at _ k (by rw [nextL_length]; exact h), nextL_at L k h]
theorem add_cells (w : World) (x : Value) (t : TypeId) : ∀ j u, [x][j]? = some u → (w.alloc (.cells #[x] t)).cell? ((⟨w.heap.size, 0, none⟩ : Addr).add j) = some u := cells_one w x t

set_option maxHeartbeats 8000000 in
theorem refNext_any (L : List (List UInt8)) (hz : L.length ≤ 100000) (hx : ∀ i, i < L.length → (L.getD i []).length ≤ 100000) (v : Value) (w : World) (hv : BL v L w) :
    Calls Tryd.prog 30 #[v] w fun e w' => ∃ v', e = .returned v' ∧ SR w.heap.size v' (nextL L) w' ∧ Below w.heap.size w w' := by
  obtain ⟨a, cap, rfl, hcap, hmax, _, hcell⟩ := hv
  unfold maxLen at hmax
  have HCell := Lib.hid hcell
  have HX := Lib.hid hx
  obtain ⟨n, hN⟩ : ∃ n, L.length = n := ⟨_, rfl⟩
  rw [hN] at hcap hz ⊢
  have HN := Lib.hid hN
  have HLL := Lib.hid (nextL_length L)
  clear hN hcell hx
  obtain ⟨i0, hi, hz0, hz1, hz2⟩ := info_string
  have HZ0 := Lib.hid hz0
  have HZ1 := Lib.hid hz1
  have HZ2 := Lib.hid hz2
  have HI := Lib.hid hi
  clear hi hz0 hz1 hz2
  have hb0 := (Below.refl w.heap.size w).alloc (Nat.le_refl _) (.cells #[] 9)
  have hs0 := SR.empty w
  go_enter Tryd.func30, Tryd.ntmps30
  go_wp2
  go_loopw [3, 4] (fun m i wr => ∃ k p : Nat, RowKit.Hid (p = 2 * k) ∧ k ≤ (n + 1) / 2 ∧ i = .int .i64 (p : Int) ∧ SR w.heap.size m ((nextL L).take k) wr ∧ Below w.heap.size w wr) (fun _ i _ => n + 1 - (intOf i).toNat)
  case atStart => exact ⟨0, 0, rfl, Nat.zero_le _, rfl, hs0, hb0⟩
  case round =>
    obtain ⟨k, p, HP, hk, rfl, hsr, hbw⟩ := hrel
    clear hs0 hb0
    by_cases hkn : p < n
    · have hlen : ((nextL L).take k).length = k := by rw [List.length_take, HLL.out, HN.out]; omega
      have HA : RowKit.Hid ((nextL L).take (k + 1) = (nextL L).take k ++ [node L k]) := next_take L k (by rw [HN.out]; have := HP.out; omega)
      generalize (nextL L).take k = M at hsr hlen HA
      by_cases hpair : p + 1 < n
      · obtain ⟨g, o, rfl, hg, hc0⟩ := HCell.out p (by rw [HN.out]; exact hkn)
        obtain ⟨q, hq⟩ : ∃ q, p + 1 = q := ⟨_, rfl⟩
        obtain ⟨g', o', he, _, hc1⟩ := HCell.out q (by rw [HN.out]; omega)
        obtain ⟨rfl, rfl⟩ : g = g' ∧ o = o' := by
          simp only [Option.some.injEq, Addr.mk.injEq] at he
          exact ⟨he.1, he.2.1⟩
        have hc0 : wr.cell? ⟨g, o + p, none⟩ = some (.string (S (L.getD p []))) := (hbw.cell (p := ⟨g, o + p, none⟩) hg).trans hc0
        have hc1 : wr.cell? ⟨g, o + q, none⟩ = some (.string (S (L.getD q []))) := (hbw.cell (p := ⟨g, o + q, none⟩) hg).trans hc1
        have cJ := Lib.hid (fun W => refJoin_any (L.getD p []) (L.getD q []) (HX.out p (by rw [HN.out]; exact hkn)) (HX.out q (by rw [HN.out]; omega)) W)
        have HD : RowKit.Hid (node L k = joinL (L.getD p []) (L.getD q [])) := by
          unfold RowKit.Hid node
          rw [if_pos (by rw [HN.out]; have := HP.out; omega), ← hq, HP.out]
        rw [HD.out] at HA
        clear he HD
        generalize joinL (L.getD p []) (L.getD q []) = d at cJ HA
        generalize S (L.getD p []) = x at cJ hc0
        generalize S (L.getD q []) = y at cJ hc1
        have i1 : (0 : Int) ≤ (p : Int) := by omega
        have i2 : (p : Int) < (n : Int) := by omega
        have i3 : (p : Int) + 1 < (n : Int) := by omega
        have i4 : (0 : Int) ≤ (q : Int) := by omega
        have i5 : (q : Int) < (n : Int) := by omega
        have hwq : IntKind.i64.wrap ((p : Int) + 1) = (q : Int) := by rw [IntKind.wrap_i64]; omega
        have HQ := Lib.hid hq
        clear hq
        have hsz := hbw.size
        have HSR := Lib.hid hsr
        have Hbw := Lib.hid hbw
        clear hsr hbw
        go_wp2
        go_region_law (first
          | (go_simp; go_at_call 14; refine (cJ.out _).mono ?_; rintro e W1 ⟨rfl, b1⟩; have hown2 := (HSR.out.after (w' := W1) ⟨b1.os, b1.tape, b1.output, b1.size, b1.block⟩).row; have hb2 := Hbw.out.trans (Below.mono (B := wr.heap.size) (w := wr) (w' := W1) ⟨b1.os, b1.tape, b1.output, b1.size, b1.block⟩ hsz); have hsz1 : wr.heap.size ≤ W1.heap.size := b1.size; rw [hlen] at hown2; clear b1)
          | (refine step_append_lies _ (by rfl) _ _ 27 (by rfl) w.heap.size 9 i0 (.string ⟨#[]⟩) 1 16 Tryd.underlying27 HI.out HZ0.out HZ1.out HZ2.out rfl (by decide) _ _ _ (by rfl) (hown2.alloc _) ⟨W1.heap.size, 0, none⟩ 1 1 [strB d] (by rfl) rfl (add_cells _ _ _) (by intro u hu; simp at hu; subst hu; rfl) (by decide) (by unfold maxLen; omega) (by omega) (by simp; omega) _ rfl ?_; intro g3 cap3 w3 hown3 hgrow3 hat3 hlt3))
        all_goals
          go_wp2
          go_roundw
          case rel =>
            have hX := hown2.alloc (.cells #[strB d] 9)
            refine ⟨k + 1, p + 2, by unfold RowKit.Hid; have := HP.out; omega, by have := HP.out; omega, by go_num, ?_, (hb2.alloc (by omega) _).grown hgrow3 (by simp; omega) (fun j hj => (hX.lt j hj).1)⟩
            rw [HA.out]
            exact SR.grow (by rw [hlen]; exact hown3) (fun h => by cases h)
          case measure => simp [intOf]; omega
      · obtain ⟨g, o, rfl, hg, hc0⟩ := HCell.out p (by rw [HN.out]; exact hkn)
        have hc0 : wr.cell? ⟨g, o + p, none⟩ = some (.string (S (L.getD p []))) := (hbw.cell (p := ⟨g, o + p, none⟩) hg).trans hc0
        have HD : RowKit.Hid (node L k = L.getD p []) := by
          unfold RowKit.Hid node
          rw [if_neg (by rw [HN.out]; have := HP.out; omega), HP.out]
        rw [HD.out] at HA
        have hsB : strB (L.getD p []) = .string (S (L.getD p [])) := rfl
        have i1 : (0 : Int) ≤ (p : Int) := by omega
        have i2 : (p : Int) < (n : Int) := by omega
        have i3 : ¬ ((p : Int) + 1 < (n : Int)) := by omega
        have hsz := hbw.size
        have hown2 := hsr.row
        rw [hlen] at hown2
        have Hbw := Lib.hid hbw
        clear hsr hbw HD
        generalize L.getD p [] = d at hc0 HA hsB
        go_wp2_with (at_builtin; refine wpList_append_own _ rfl _ _ 27 rfl w.heap.size 9 i0 (.string ⟨#[]⟩) 1 16 Tryd.underlying27 HI.out HZ0.out HZ1.out HZ2.out rfl (by decide) _ _ _ rfl (hown2.alloc _) ⟨wr.heap.size, 0, none⟩ 1 1 [strB d] rfl rfl (cells_one _ _ _) (by intro u hu; simp at hu; subst hu; rfl) (by unfold maxLen; omega) (by omega) (by simp; omega) ?_; intro v3 w3 hown3 hgrow3 hnil3)
        go_roundw
        case rel =>
          have hX := hown2.alloc (.cells #[strB d] 9)
          refine ⟨k + 1, p + 2, by unfold RowKit.Hid; have := HP.out; omega, by have := HP.out; omega, by go_num, ?_, (Hbw.out.alloc (by omega) _).grown hgrow3 (by simp; omega) (fun j hj => (hX.lt j hj).1)⟩
          rw [HA.out]
          exact SR.grow (by rw [hlen]; exact hown3) (fun h => by have := (hnil3.1 h).2; omega)
        case measure => simp [intOf]; omega
    · have hT : (nextL L).take k = nextL L := by
        rw [List.take_of_length_le]
        rw [HLL.out, HN.out]
        have := HP.out
        omega
      rw [hT] at hsr
      have HSR := Lib.hid hsr
      have Hbw := Lib.hid hbw
      clear hsr hbw hT
      go_wp2
      go_ret
      exact ⟨_, rfl, HSR.out, Hbw.out⟩
end Go.Proofs.YtdaoccmhehekaaaDoor
