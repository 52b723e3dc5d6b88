/- libraryref06: Leaves, Same, Small. -/
import Derived.Test.YtdaoccmhehekaaaDoorR06B
import Derived.RegionTactic
import Derived.BigRegion
namespace Go.Proofs.YtdaoccmhehekaaaDoor
open Go.RowKit Go.PlainAid

theorem take_at (L : List (List UInt8)) (k : Nat) (h : k < L.length) : L.take (k + 1) = L.take k ++ [L.getD k []] := by
  rw [List.take_succ_eq_append_getElem h, List.getD_eq_getElem?_getD, List.getElem?_eq_getElem h]
  rfl
theorem take_row (L : List (List UInt8)) (k : Nat) (h : k < L.length) : (L.take (k + 1)).map strB = (L.take k).map strB ++ [strB (L.getD k [])] := by
  rw [take_at L k h, List.map_append]
  rfl
theorem leaves_at (L : List (List UInt8)) (k : Nat) (h : k < L.length) : (leaves L).getD k [] = leafL (L.getD k []) := by
  unfold leaves
  rw [List.getD_eq_getElem?_getD, List.getElem?_map, List.getD_eq_getElem?_getD, List.getElem?_eq_getElem h]
  rfl
/-- A row that has grown by one text. -/
theorem SR.grow {B : Nat} {v : Value} {L : List (List UInt8)} {x : List UInt8} {w : World} (h : w.ownsRow B 9 1 v (L.length + 1) (L.map strB ++ [strB x])) (hn : v ≠ .slice none 0 0) : SR B v (L ++ [x]) w :=
  ⟨by rw [List.length_append, List.map_append]; exact h, hn⟩

set_option maxHeartbeats 8000000 in
theorem refLeaves_any (L : List (List UInt8)) (hz : L.length ≤ 100000) (hx : ∀ i, i < L.length → (L.getD i []).length ≤ 100000) (v : Value) (w : World) (hv : BL v L w) :
    Calls Tryd.prog 29 #[v] w fun e w' => ∃ v', e = .returned v' ∧ SR w.heap.size v' (leaves L) w' ∧ Below w.heap.size w w' := by
  obtain ⟨a, cap, rfl, hcap, hmax, _, hcell⟩ := hv
  have HCell := Lib.hid hcell
  have HX := Lib.hid hx
  obtain ⟨n, hN⟩ : ∃ n, L.length = n := ⟨_, rfl⟩
  rw [hN] at hcap hz ⊢
  have HN := Lib.hid hN
  have HLL := Lib.hid (leaves_length L)
  clear hN hcell hx
  obtain ⟨i0, hi, hz0, hz1, hz2⟩ := info_string
  have HZ0 := Lib.hid hz0
  have HZ1 := Lib.hid hz1
  have HZ2 := Lib.hid hz2
  have HI := Lib.hid hi
  clear hi hz0 hz1 hz2
  have hb0 := (Below.refl w.heap.size w).alloc (Nat.le_refl _) (.cells #[] 9)
  have hs0 := SR.empty w
  go_enter Tryd.func29, Tryd.ntmps29
  go_wp2
  go_loopw [3, 4] (fun m i wr => ∃ k : Nat, k ≤ n ∧ i = .int .i64 (k : Int) ∧ SR w.heap.size m ((leaves L).take k) wr ∧ Below w.heap.size w wr) (fun _ i _ => n - (intOf i).toNat)
  case atStart => exact ⟨0, Nat.zero_le _, rfl, hs0, hb0⟩
  case round =>
    obtain ⟨k, hk, rfl, hsr, hbw⟩ := hrel
    clear hs0 hb0
    by_cases hkn : k < n
    · obtain ⟨g, o, rfl, hg, hc0⟩ := HCell.out k (by rw [HN.out]; exact hkn)
      have hc : wr.cell? ⟨g, o + k, none⟩ = some (.string (S (L.getD k []))) := (hbw.cell (p := ⟨g, o + k, none⟩) hg).trans hc0
      have hlx := HX.out k (by rw [HN.out]; exact hkn)
      have cS := Lib.hid (fun W => refSum_any (48 :: L.getD k []) (by rw [List.length_cons]; omega) W)
      have hE : (⟨#[48]⟩ : ByteArray) ++ S (L.getD k []) = S (48 :: L.getD k []) := by rw [show (⟨#[48]⟩ : ByteArray) = S [48] from rfl, S_append]; rfl
      have hlen : ((leaves L).take k).length = k := by rw [List.length_take, HLL.out, HN.out]; omega
      have HA : RowKit.Hid ((leaves L).take (k + 1) = (leaves L).take k ++ [leafL (L.getD k [])]) := by
        unfold RowKit.Hid
        rw [take_at _ k (by rw [HLL.out, HN.out]; exact hkn), leaves_at L k (by rw [HN.out]; exact hkn)]
      have z1 : (S (L.getD k [])).size ≤ 100000 := by rw [S_size]; exact hlx
      change RowKit.Hid (∀ W : World, Calls Tryd.prog 13 #[.string (S (48 :: L.getD k []))] W fun e w' => e = .returned (.string (S (leafL (L.getD k [])))) ∧ Below W.heap.size W w') at cS
      generalize leafL (L.getD k []) = d at cS HA
      generalize S (48 :: L.getD k []) = x1 at cS hE
      generalize S (L.getD k []) = x0 at hE z1 hc
      have i1 : (0 : Int) ≤ (k : Int) := by omega
      have i2 : (k : Int) < (n : Int) := by omega
      have hsz := hbw.size
      generalize (leaves L).take k = M at hsr hlen HA
      have HSR := Lib.hid hsr
      have Hbw := Lib.hid hbw
      clear hsr hbw hc0 hlx
      go_wp2_with fail
      refine (cS.out _).mono ?_
      rintro e W1 ⟨rfl, b1⟩
      have hown2 := (HSR.out.after b1).row
      have hb2 := Hbw.out.trans (b1.mono hsz)
      have hsz1 := b1.size
      rw [hlen] at hown2
      clear b1
      go_wp2_with (at_builtin; refine wpList_append_own _ rfl _ _ 27 rfl w.heap.size 9 i0 (.string ⟨#[]⟩) 1 16 Tryd.underlying27 HI.out HZ0.out HZ1.out HZ2.out rfl (by decide) _ _ _ rfl (hown2.alloc _) ⟨W1.heap.size, 0, none⟩ 1 1 [strB d] rfl rfl (cells_one _ _ _) (by intro u hu; simp at hu; subst hu; rfl) (by unfold maxLen; omega) (by omega) (by simp; omega) ?_; intro v3 w3 hown3 hgrow3 hnil3)
      go_roundw
      case rel =>
        have hX := hown2.alloc (.cells #[strB d] 9)
        refine ⟨k + 1, by omega, by go_num, ?_, (hb2.alloc (by omega) _).grown hgrow3 (by simp; omega) (fun j hj => (hX.lt j hj).1)⟩
        rw [HA.out]
        exact SR.grow (by rw [hlen]; exact hown3) (fun h => by have := (hnil3.1 h).2; omega)
      case measure => simp [intOf]; omega
    · obtain rfl : k = n := by omega
      have hT : (leaves L).take k = leaves L := by rw [← HN.out, ← HLL.out, List.take_length]
      rw [hT] at hsr
      have HSR := Lib.hid hsr
      have Hbw := Lib.hid hbw
      clear hsr hbw hT
      go_wp2
      go_ret
      exact ⟨_, rfl, HSR.out, Hbw.out⟩

end Go.Proofs.YtdaoccmhehekaaaDoor
