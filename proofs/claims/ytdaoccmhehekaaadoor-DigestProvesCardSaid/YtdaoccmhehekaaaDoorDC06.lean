/- Package digest: lowest (the lowest level of a list). -/
import Derived.Test.YtdaoccmhehekaaaDoorDB06
import Derived.Test.YtdaoccmhehekaaaDoorR06F
import Derived.Deep.OwnRows
namespace Go.Proofs.YtdaoccmhehekaaaDoor
open Go.RowKit Go.PlainAid

/-! A row of texts in a block of its own, all its places in use. -/
structure RowS (w : World) (M : List (List UInt8)) (wr : World) : Prop where
  row : ∃ cur : Array Value, wr.heap[w.heap.size]? = some (.cells cur 9 (0, 0)) ∧ cur.toList = M.map strB
  bel : Below w.heap.size w wr
theorem RowS.fz {w wr : World} {M : List (List UInt8)} (h : RowS w M wr) (i : Nat) : wr.frozen? ⟨w.heap.size, i, none⟩ = false := by
  obtain ⟨cur, hr, _⟩ := h.row
  simp [World.frozen?, hr]
theorem RowS.lt {w wr : World} {M : List (List UInt8)} (h : RowS w M wr) : w.heap.size < wr.heap.size := by
  obtain ⟨cur, hr, _⟩ := h.row
  exact (Array.getElem?_eq_some_iff.1 hr).1
theorem RowS.cell {w wr : World} {M : List (List UInt8)} (h : RowS w M wr) (i : Nat) (hi : i < M.length) : wr.cell? ⟨w.heap.size, i, none⟩ = some (.string (S (M.getD i []))) := by
  obtain ⟨cur, hr, hc⟩ := h.row
  have h1 : cur[i]? = some (strB (M.getD i [])) := by
    rw [← Array.getElem?_toList, hc, List.getElem?_map, List.getD_eq_getElem?_getD, List.getElem?_eq_getElem hi]
    rfl
  simp only [World.cell?, hr]
  exact h1
theorem RowS.after {w wr w' : World} {M : List (List UInt8)} (h : RowS w M wr) (hb : Below wr.heap.size wr w') : RowS w M w' := by
  obtain ⟨cur, hr, hc⟩ := h.row
  exact ⟨⟨cur, (hb.block _ (Array.getElem?_eq_some_iff.1 hr).1).trans hr, hc⟩, h.bel.trans (hb.mono h.bel.size)⟩
theorem RowS.set {w wr : World} {M : List (List UInt8)} (h : RowS w M wr) (i : Nat) (x : List UInt8) : RowS w (M.set i x) (wr.setCell ⟨w.heap.size, i, none⟩ (.string (S x))) := by
  obtain ⟨cur, hr, hc⟩ := h.row
  refine ⟨⟨cur.setIfInBounds i (.string (S x)), ?_, ?_⟩, h.bel.setCell (p := ⟨w.heap.size, i, none⟩) (Nat.le_refl _) _⟩
  · simp [World.setCell, Array.getElem?_modify, hr]
  · rw [Array.toList_setIfInBounds, hc, List.map_set]
    rfl
theorem RowS.sr {w wr : World} {M : List (List UInt8)} {n : Nat} (h : RowS w M wr) (hl : M.length = n) (hn : n ≤ maxLen) : SR w.heap.size (.slice (some ⟨w.heap.size, 0, none⟩) n n) M wr := by
  obtain ⟨cur, hr, hc⟩ := h.row
  have hs : cur.size = n := by rw [← Array.length_toList, hc, List.length_map, hl]
  refine ⟨⟨by simp, .inr ⟨w.heap.size, n, cur, by rw [hl], Nat.le_refl _, hr, by omega, hn, by omega, ?_⟩⟩, fun h => by cases h⟩
  rw [hc, List.take_of_length_le (by simp)]
def lowK (L : List (List UInt8)) (n k : Nat) : List (List UInt8) := (leaves L).take k ++ List.replicate (n - k) []
theorem lowK_length (L : List (List UInt8)) (n k : Nat) (hl : L.length = n) (hk : k ≤ n) : (lowK L n k).length = n := by
  simp [lowK, leaves_length, hl]; omega
theorem lowK_set (L : List (List UInt8)) (n k : Nat) (hl : L.length = n) (hk : k < n) : (lowK L n k).set k (leafL (L.getD k [])) = lowK L n (k + 1) := by
  unfold lowK
  have h1 : ((leaves L).take k).length = k := by rw [List.length_take, leaves_length]; omega
  rw [List.set_append_right _ _ (by omega), h1, Nat.sub_self, show n - k = (n - (k + 1)) + 1 by omega, List.replicate_succ, List.set_cons_zero, take_at _ k (by rw [leaves_length]; omega), leaves_at L k (by omega), List.append_assoc]
  rfl
theorem lowK_all (L : List (List UInt8)) (n : Nat) (hl : L.length = n) : lowK L n n = leaves L := by
  unfold lowK
  rw [Nat.sub_self, List.replicate_zero, List.append_nil, List.take_of_length_le (by rw [leaves_length]; omega)]

set_option maxHeartbeats 8000000 in
theorem digLowest_any (L : List (List UInt8)) (hz : L.length ≤ 100000) (hx : ∀ i, i < L.length → (L.getD i []).length ≤ 100000) (v : Value) (w : World) (hv : BL v L w) :
    Calls Tryd.prog 27 #[v] w fun e w' => ∃ v', e = .returned v' ∧ SR w.heap.size v' (leaves L) w' ∧ Below w.heap.size w w' := by
  obtain ⟨a, cap, rfl, hcap, hmax, _, hcell⟩ := hv
  have HCell := Lib.hid hcell
  have HX := Lib.hid hx
  obtain ⟨n, hN⟩ : ∃ n, L.length = n := ⟨_, rfl⟩
  rw [hN] at hcap hz ⊢
  have HN := Lib.hid hN
  clear hN hcell hx
  have hmk := run_make_row' (P := Tryd.prog) 27 9 (.string ⟨#[]⟩) 16 Tryd.underlying27 infoString rfl .i64 .i64 n (by omega) (by omega)
  have h0 : RowS w (lowK L n 0) (w.alloc (.cells (madeCells #[.string ⟨#[]⟩] n) 9)) := by
    refine ⟨⟨_, heap_alloc_new w _, ?_⟩, (Below.refl w.heap.size w).alloc (Nat.le_refl _) _⟩
    rw [toList_madeCells_one]
    simp [lowK, strB, S]
  go_enter Tryd.func27, Tryd.ntmps27
  go_wp2
  go_loopw [11] (fun i wr => ∃ k : Nat, k ≤ n ∧ i = .int .i64 (k : Int) ∧ RowS w (lowK L n k) wr) (fun i _ => n - (intOf i).toNat)
  case atStart => exact ⟨0, Nat.zero_le _, rfl, h0⟩
  case round =>
    obtain ⟨k, hk, rfl, hr⟩ := hrel
    clear h0
    by_cases hkn : k < n
    · obtain ⟨g, o, rfl, hg, hc0⟩ := HCell.out k (by rw [HN.out]; exact hkn)
      have hc : wr.cell? ⟨g, o + k, none⟩ = some (.string (S (L.getD k []))) := (hr.bel.cell (p := ⟨g, o + k, none⟩) hg).trans hc0
      have cS := Lib.hid (fun W => dig_leaf (L.getD k []) (by have := HX.out k (by rw [HN.out]; exact hkn); omega) W)
      have HSet := Lib.hid (lowK_set L n k HN.out hkn)
      have hlen := lowK_length L n k HN.out hk
      have i1 : (0 : Int) ≤ (k : Int) := by omega
      have i2 : (k : Int) < (n : Int) := by omega
      generalize lowK L n k = M at *
      generalize leafL (L.getD k []) = d at *
      generalize S (L.getD k []) = x0 at *
      have HR := Lib.hid hr
      clear hr hc0
      go_wp2_with fail
      refine (cS.out _).mono ?_
      rintro e W1 ⟨rfl, b1⟩
      have hr1 := HR.out.after b1
      have hcell := hr1.cell k (by omega)
      have hfz := hr1.fz k
      have HS1 := Lib.hid (hr1.set k d)
      clear hr1 b1
      go_wp2
      go_roundw
      case rel => exact ⟨k + 1, by omega, by go_num, by rw [← HSet.out]; exact HS1.out⟩
      case measure => simp [intOf]; omega
    · obtain rfl : k = n := by omega
      rw [lowK_all L k HN.out] at hr
      have HS := Lib.hid (hr.sr (n := k) (by rw [leaves_length]; exact HN.out) (by unfold maxLen; omega))
      have Hbw := Lib.hid hr.bel
      clear hr
      go_wp2
      go_ret
      exact ⟨_, rfl, HS.out, Hbw.out⟩
end Go.Proofs.YtdaoccmhehekaaaDoor
