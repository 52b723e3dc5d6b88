/- Package digest: above (the level above another one). -/
import Derived.Test.YtdaoccmhehekaaaDoorDC06
import Derived.Laws.MakeOwn
import Derived.Deep.RegionLaw
import Derived.Deep.AppendLies
namespace Go.Proofs.YtdaoccmhehekaaaDoor
open Go.RowKit Go.PlainAid

/-- A slice of texts at an address, however short. -/
def BS (v : Value) (M : List (List UInt8)) (w : World) : Prop :=
  ∃ g o cap, v = .slice (some ⟨g, o, none⟩) M.length cap ∧ M.length ≤ cap ∧ cap ≤ maxLen ∧ g < w.heap.size ∧ ∀ i, i < M.length → w.cell? ⟨g, o + i, none⟩ = some (.string (S (M.getD i [])))
theorem BS.after {v : Value} {M : List (List UInt8)} {w w' : World} (h : BS v M w) (hb : Below w.heap.size w w') : BS v M w' := by
  obtain ⟨g, o, cap, rfl, hc, hm, hg, hx⟩ := h
  exact ⟨g, o, cap, rfl, hc, hm, Nat.lt_of_lt_of_le hg hb.size, fun i hi => (hb.cell (p := ⟨g, o + i, none⟩) hg).trans (hx i hi)⟩
theorem BS.of {v : Value} {M : List (List UInt8)} {w : World} (h : BL v M w) (hne : 0 < M.length) : BS v M w := by
  have h2 := h
  obtain ⟨a, c, rfl, hc, hm⟩ := h.length
  obtain ⟨g, o, cap, e, hg, hx⟩ := h2.cell hne
  simp only [Value.slice.injEq] at e
  obtain ⟨rfl, _, rfl⟩ := e
  exact ⟨g, o, c, rfl, hc, hm, hg, hx⟩
theorem BS.drop {g o n cap : Nat} {M : List (List UInt8)} {w : World} (k : Nat) (hk : k ≤ n) (hn : M.length = n) (hc : n ≤ cap) (hm : cap ≤ maxLen) (hg : g < w.heap.size) (hx : ∀ i, i < n → w.cell? ⟨g, o + i, none⟩ = some (.string (S (M.getD i [])))) :
    BS (.slice (if cap = k then some ⟨g, o, none⟩ else some ((⟨g, o, none⟩ : Addr).add k)) (n - k) (cap - k)) (M.drop k) w := by
  have hl : (M.drop k).length = n - k := by rw [List.length_drop, hn]
  have hadd : (⟨g, o, none⟩ : Addr).add k = ⟨g, o + k, none⟩ := by unfold Addr.add; split <;> simp_all
  by_cases h : cap = k
  · rw [if_pos h]
    exact ⟨g, o, cap - k, by rw [hl], by omega, by omega, hg, fun i hi => by omega⟩
  · rw [if_neg h, hadd]
    refine ⟨g, o + k, cap - k, by rw [hl], by omega, by omega, hg, fun i hi => ?_⟩
    rw [Nat.add_assoc, hx (k + i) (by omega)]
    simp [List.getD_eq_getElem?_getD]
theorem BS.news {g o : Nat} {M : List (List UInt8)} {w : World} (hx : ∀ i, i < M.length → w.cell? ⟨g, o + i, none⟩ = some (.string (S (M.getD i [])))) : ∀ j u, (M.map strB)[j]? = some u → w.cell? ((⟨g, o, none⟩ : Addr).add j) = some u := by
  intro j u hj
  have hadd : (⟨g, o, none⟩ : Addr).add j = ⟨g, o + j, none⟩ := by unfold Addr.add; split <;> simp_all
  have hjl : j < M.length := by
    have := (List.getElem?_eq_some_iff.1 hj).1
    rwa [List.length_map] at this
  rw [List.getElem?_map, List.getElem?_eq_getElem hjl] at hj
  rw [hadd, hx j hjl, List.getD_eq_getElem?_getD, List.getElem?_eq_getElem hjl]
  exact hj

theorem make_cap (c : Nat) (hc : c ≤ 100000) (w : World) :
    (Instr.makeSlice 27 (.int .i64 0) (.int .i64 (c : Int))).run Tryd.prog w = .ok (.slice (some ⟨w.heap.size, 0, none⟩) 0 c) (w.alloc (.cells (madeCells #[.string ⟨#[]⟩] c) 9)) := by
  obtain ⟨i0, hi, hz, hs, hb⟩ := info_string
  have hr := run_make (P := Tryd.prog) w 27 9 i0 (.string ⟨#[]⟩) Tryd.underlying27 hi hz .i64 .i64 0 c (by omega) (by omega) (by rw [hb]; omega) (by omega)
  rw [hs] at hr
  simpa [Value.cells] using hr
theorem SR.fresh (c : Nat) (hc : c ≤ 100000) (w : World) : SR w.heap.size (.slice (some ⟨w.heap.size, 0, none⟩) 0 c) [] (w.alloc (.cells (madeCells #[.string ⟨#[]⟩] c) 9)) :=
  ⟨⟨rfl, .inr ⟨w.heap.size, c, _, rfl, Nat.le_refl _, heap_alloc_new w _, Nat.zero_le _, by unfold maxLen; omega, by rw [size_madeCells, Nat.mul_one], rfl⟩⟩, fun h => by cases h⟩
theorem node_pair (L : List (List UInt8)) (k : Nat) (h : 2 ≤ (L.drop (2 * k)).length) : node L k = joinL ((L.drop (2 * k)).getD 0 []) ((L.drop (2 * k)).getD 1 []) := by
  rw [List.length_drop] at h
  unfold node
  rw [if_pos (by omega)]
  simp [List.getD_eq_getElem?_getD]
theorem next_end (L : List (List UInt8)) (k : Nat) (h : (L.drop (2 * k)).length ≤ 1) (hk : k ≤ (L.length + 1) / 2) : nextL L = (nextL L).take k ++ L.drop (2 * k) := by
  rw [List.length_drop] at h
  by_cases h1 : L.length - 2 * k = 1
  · have h2 : L.drop (2 * k) = [L.getD (2 * k) []] := by
      rw [List.drop_eq_getElem_cons (by omega), List.drop_of_length_le (by omega), List.getD_eq_getElem?_getD, List.getElem?_eq_getElem (by omega)]
      rfl
    have h3 : node L k = L.getD (2 * k) [] := by unfold node; rw [if_neg (by omega)]
    rw [h2, ← h3, ← next_take L k (by omega), List.take_of_length_le (by rw [nextL_length]; omega)]
  · rw [List.drop_of_length_le (by omega), List.append_nil, List.take_of_length_le (by rw [nextL_length]; omega)]

set_option maxHeartbeats 16000000 in
theorem digAbove_any (L : List (List UInt8)) (hz : L.length ≤ 100000) (h1 : 1 < L.length) (hx : ∀ i, i < L.length → (L.getD i []).length ≤ 100000) (v : Value) (w : World) (hv : BL v L w) :
    Calls Tryd.prog 28 #[v] w fun e w' => ∃ v', e = .returned v' ∧ SR w.heap.size v' (nextL L) w' ∧ Below w.heap.size w w' := by
  have hbs0 := BS.of hv (by omega)
  clear hv
  have HX := Lib.hid hx
  obtain ⟨n, hN⟩ : ∃ n, L.length = n := ⟨_, rfl⟩
  obtain ⟨c, hc⟩ : ∃ c, (n + 1) / 2 = c := ⟨_, rfl⟩
  have c1 := Lib.hid (fun W => digHalf_any n (by omega) W)
  rw [hc] at c1
  have hmk := make_cap c (by omega)
  have hb0 := (Below.refl w.heap.size w).alloc (Nat.le_refl _) (.cells (madeCells #[.string ⟨#[]⟩] c) 9)
  have hs0 : SR w.heap.size (.slice (some ⟨w.heap.size, 0, none⟩) 0 c) ((nextL L).take 0) (w.alloc (.cells (madeCells #[.string ⟨#[]⟩] c) 9)) := SR.fresh c (by omega) w
  have hbs1 : BS v (L.drop (2 * 0)) w := hbs0
  have HN := Lib.hid hN
  have HC := Lib.hid hc
  have HLL := Lib.hid (nextL_length L)
  rw [hN] at hz h1
  clear hN hx
  obtain ⟨i0, hi, hz0, hz1, hz2⟩ := info_string
  have HZ0 := Lib.hid hz0
  have HZ1 := Lib.hid hz1
  have HZ2 := Lib.hid hz2
  have HI := Lib.hid hi
  clear hi hz0 hz1 hz2
  have hcn : c ≤ n := by omega
  clear hc
  obtain ⟨g, o, cap, rfl, _, _, _, _⟩ := hbs0
  rw [HN.out] at hbs1 ⊢
  go_enter Tryd.func28, Tryd.ntmps28
  go_wp2_with fail
  refine (c1.out _).mono ?_
  rintro e w1 ⟨rfl, rfl⟩
  clear c1
  go_wp2
  go_loopw [0, 3] (fun lv m wr => ∃ k : Nat, k ≤ c ∧ BS lv (L.drop (2 * k)) w1 ∧ SR w1.heap.size m ((nextL L).take k) wr ∧ Below w1.heap.size w1 wr) (fun lv _ _ => lenV lv)
  case atStart => exact ⟨0, Nat.zero_le _, hbs1, hs0, hb0⟩
  case round =>
    obtain ⟨k, hk, hbs, hsr, hbw⟩ := hrel
    clear hs0 hb0 hbs1 hmk
    have hlen : ((nextL L).take k).length = k := by rw [List.length_take, HLL.out, HN.out, HC.out]; omega
    have hml : (L.drop (2 * k)).length = n - 2 * k := by rw [List.length_drop, HN.out]
    obtain ⟨g2, o2, cp, rfl, hcp, hmx, hg, hcell⟩ := hbs
    have HCell := Lib.hid hcell
    unfold maxLen at hmx
    by_cases hgt : 1 < n - 2 * k
    · have hc0 := (hbw.cell (p := ⟨g2, o2 + 0, none⟩) hg).trans (hcell 0 (by omega))
      have hc1 := (hbw.cell (p := ⟨g2, o2 + 1, none⟩) hg).trans (hcell 1 (by omega))
      rw [Nat.add_zero] at hc0
      have HA : RowKit.Hid ((nextL L).take (k + 1) = (nextL L).take k ++ [node L k]) := next_take L k (by have := HC.out; rw [HN.out]; omega)
      have HD := node_pair L k (by omega)
      rw [HD] at HA
      clear HD
      have hx0 : ((L.drop (2 * k)).getD 0 []).length ≤ 100000 := by
        have := HX.out (2 * k) (by rw [HN.out]; omega)
        simpa [List.getD_eq_getElem?_getD] using this
      have hx1 : ((L.drop (2 * k)).getD 1 []).length ≤ 100000 := by
        have := HX.out (2 * k + 1) (by rw [HN.out]; omega)
        simpa [List.getD_eq_getElem?_getD] using this
      have cJ := Lib.hid (fun W => digJoin_any _ _ (show ((L.drop (2 * k)).getD 0 []).length ≤ 1000000 by omega) (show ((L.drop (2 * k)).getD 1 []).length ≤ 1000000 by omega) W)
      clear hx0 hx1 hcell
      have HML := Lib.hid hml
      have HDD : RowKit.Hid (L.drop (2 * (k + 1)) = (L.drop (2 * k)).drop 2) := by unfold RowKit.Hid; rw [List.drop_drop]; rfl
      generalize L.drop (2 * k) = M at *
      generalize joinL (M.getD 0 []) (M.getD 1 []) = d at cJ HA
      generalize S (M.getD 0 []) = x at cJ hc0
      generalize S (M.getD 1 []) = y at cJ hc1
      generalize (nextL L).take k = N at hsr hlen HA
      have hsz := hbw.size
      have HSR := Lib.hid hsr
      have Hbw := Lib.hid hbw
      obtain ⟨m, hm⟩ : ∃ m, M.length = m := ⟨_, rfl⟩
      have HM := Lib.hid hm
      rw [hm] at hcp hml ⊢
      rw [← hml] at hgt
      clear hml
      have hmn : m ≤ n := by have := HML.out; have := HM.out; omega
      have t1 : decide ((1 : Int) < (m : Int)) = true := by simp only [decide_eq_true_eq]; omega
      have i1 : 0 < m := by omega
      have i2 : 1 < m := by omega
      have i3 : 2 ≤ m := by omega
      have i4 : (2 : Int) ≤ (m : Int) := by omega
      have i5 : (1 : Int) < (m : Int) := by omega
      clear hsr hbw hm
      go_wp2
      go_region_law (first
        | (go_simp; go_at_call 12; refine (cJ.out _).mono ?_; rintro e W1 ⟨rfl, b1⟩; have hown2 := (HSR.out.after (w' := W1) ⟨b1.os, b1.tape, b1.output, b1.size, b1.block⟩).row; have hb2 := Hbw.out.trans (Below.mono (B := wr.heap.size) (w := wr) (w' := W1) ⟨b1.os, b1.tape, b1.output, b1.size, b1.block⟩ hsz); have hsz1 : wr.heap.size ≤ W1.heap.size := b1.size; have HB1 : RowKit.Hid (Below wr.heap.size wr W1) := ⟨b1.os, b1.tape, b1.output, b1.size, b1.block⟩; rw [hlen] at hown2; clear b1)
        | (refine step_append_lies _ (by rfl) _ _ 27 (by rfl) w1.heap.size 9 i0 (.string ⟨#[]⟩) 1 16 Tryd.underlying27 HI.out HZ0.out HZ1.out HZ2.out rfl (by decide) _ _ _ (by rfl) (hown2.alloc _) ⟨W1.heap.size, 0, none⟩ 1 1 [strB d] (by rfl) rfl (add_cells _ _ _) (by intro u hu; simp at hu; subst hu; rfl) (by decide) (by unfold maxLen; omega) (by omega) (by simp; omega) _ rfl ?_; intro g3 cap3 w3 hown3 hgrow3 hat3 hlt3))
      all_goals
        have hX := hown2.alloc (.cells #[strB d] 9)
        have HBW3 : RowKit.Hid (Below w1.heap.size w1 w3) := (hb2.alloc (by omega) _).grown hgrow3 (by simp; omega) (fun j hj => (hX.lt j hj).1)
        go_wp2
        go_roundw
        case rel =>
          refine ⟨k + 1, by have := HC.out; have := HML.out; have := HM.out; omega, ?_, ?_, HBW3.out⟩
          · rw [HDD.out]
            exact BS.drop 2 (by omega) HM.out hcp (by unfold maxLen; omega) hg (fun i hi => HCell.out i (by rw [HM.out]; exact hi))
          · rw [HA.out]
            exact SR.grow (by rw [hlen]; exact hown3) (fun h => by cases h)
        case measure => simp [lenV]; omega
    · have HNE := Lib.hid (next_end L k (by omega) (by rw [HN.out, HC.out]; exact hk))
      have hnews := BS.news (fun i hi => (hbw.cell (p := ⟨g2, o2 + i, none⟩) hg).trans (hcell i hi))
      have hM1 : (L.drop (2 * k)).length ≤ 1 := by omega
      clear hgt hml hcell
      generalize L.drop (2 * k) = M at *
      generalize (nextL L).take k = N at *
      have hown2 := hsr.row
      have hsz := hbw.size
      rw [hlen] at hown2
      have Hbw := Lib.hid hbw
      have HLT := Lib.hid hown2.lt
      have Hlen := Lib.hid hlen
      have hnn := hsr.nn
      clear hsr hbw hlen
      obtain ⟨m, hm⟩ : ∃ m, M.length = m := ⟨_, rfl⟩
      have HM := Lib.hid hm
      rw [hm] at hM1 hcp ⊢
      clear hm
      have t1 : decide ((1 : Int) < (m : Int)) = false := by simp only [decide_eq_false_iff_not]; omega
      go_wp2_with (at_builtin; refine wpList_append_own _ rfl _ _ 27 rfl w1.heap.size 9 i0 (.string ⟨#[]⟩) 1 16 Tryd.underlying27 HI.out HZ0.out HZ1.out HZ2.out rfl (by decide) _ _ _ rfl hown2 ⟨g2, o2, none⟩ m cp (M.map strB) rfl (by rw [List.length_map, HM.out, Nat.mul_one]) hnews (by intro u hu; simp at hu; obtain ⟨x, _, rfl⟩ := hu; rfl) (by unfold maxLen; omega) (by omega) hsz ?_; intro v3 w3 hown3 hgrow3 hnil3)
      go_ret
      refine ⟨_, rfl, ⟨?_, ?_⟩, Hbw.out.grown hgrow3 hsz (fun j hj => (HLT.out j hj).1)⟩
      · rw [HNE.out, List.length_append, Hlen.out, HM.out, List.map_append]
        exact hown3
      · exact fun h => hnn (hnil3.1 h).1
end Go.Proofs.YtdaoccmhehekaaaDoor
