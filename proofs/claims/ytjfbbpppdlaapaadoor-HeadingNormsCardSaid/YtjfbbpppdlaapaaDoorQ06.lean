/- Merged: Acc, TFold. -/
import Derived.Test.YtjfbbpppdlaapaaDoorQ02
import Derived.Test.YtjfbbpppdlaapaaDoorQ01
import Derived.Test.YtjfbbpppdlaapaaDoorQ04
import Derived.Test.YtjfbbpppdlaapaaDoorQ05
namespace Go.Proofs.YtjfbbpppdlaapaaDoor

section
open Go.RowKit
/-- The table of folded forms lies in its block. -/
def Acc (w : World) : Prop := 0 < w.heap.size ∧ ∀ i, i < 64 → w.cell? ⟨0, i, none⟩ = some (.string (T (accL.getD i [])))
theorem Acc.after {w w' : World} (h : Acc w) (hb : Below w.heap.size w w') : Acc w' := by
  obtain ⟨h1, h4⟩ := h
  refine ⟨Nat.lt_of_lt_of_le h1 hb.size, fun i hi => ?_⟩
  rw [hb.cell (p := ⟨0, i, none⟩) h1]
  exact h4 i hi
end

section
open Go.RowKit
theorem acc_OK : ∀ i : Fin 64, (accL.getD i.val []).length ≤ 2 := by decide

theorem foldL_len_take (cs : List Nat) (j : Nat) : (foldL (cs.take j)).length ≤ 2 * j := by
  have h1 := fold_len (cs.take j)
  have h2 : (cs.take j).length ≤ j := List.length_take_le _ _
  omega

set_option maxHeartbeats 4000000 in
theorem fold_any (cs : List Nat) (h : OKs cs) (s : ByteArray) (hs : s = T cs) (hz : cs.length ≤ 1000000) (w : World) (hE : Acc w) :
    Calls Tryd.prog 54 #[.string s] w fun e w' => e = .returned (.string (T (foldL cs))) ∧ Below w.heap.size w w' := by
  subst hs
  have HE := Lib.hid hE
  clear hE
  go_enter Tryd.func54, Tryd.ntmps54
  go_wp2
  go_loopw [] (fun wr => ∃ j : Nat, j ≤ cs.length ∧ IsB w.heap.size w.heap.size (Lib.byteCells (enc (foldL (cs.take j)))) wr ∧ wr.heap[w.heap.size + 1]? = some (.stringIter (T cs) (off cs j)) ∧ Below w.heap.size w wr) (fun wr => (T cs).size - wr.iterPos (w.heap.size + 1))
  case atStart =>
    refine ⟨0, Nat.zero_le _, (Lib.IsBuilderF.of (Lib.fresh_isBuilder _ _ w)).alloc _, ?_, ((Below.refl _ w).alloc (Nat.le_refl _) _).alloc (by simp) _⟩
    rw [off_zero]
    have := World.iter_heap (w.alloc (.cells #[.pointer none, .slice none 0 0] 51)) (T cs) 0
    simpa using this
  case round =>
    obtain ⟨j, hj, hI, hit, hbw⟩ := hrel
    have hsz : w.heap.size + 1 < wr.heap.size := (Array.getElem?_eq_some_iff.1 hit).1
    have hl1 := foldL_len_take cs j
    have hl2 := cells_len (foldL (cs.take j))
    by_cases hlt : j < cs.length
    · have hnx : ∀ ty, (Instr.next (.pointer (some ⟨w.heap.size + 1, 0, none⟩)) true ty).run Tryd.prog wr = _ := fun ty => next_T wr (w.heap.size + 1) cs h j hit hlt ty
      have hit2 := Lib.iterAt_heap wr (w.heap.size + 1) (T cs) (off cs j) (off cs (j + 1)) hit
      have hbw2 := Lib.below_iterAt hbw (k := w.heap.size + 1) (by omega) (T cs) (off cs (j + 1))
      have hI2 := hI.iterAt hit (off cs (j + 1))
      have hsz2 : w.heap.size ≤ (wr.iterAt (w.heap.size + 1) (T cs) (off cs (j + 1))).heap.size := by rw [Lib.iterAt_size]; omega
      have HM := Lib.hid (pos_T _ _ _ _ hit)
      have hol := off_lt cs j hlt
      have hoj := off_inj cs j (j + 1) (by omega) (by omega)
      have hok := okc_le (OKs_get h hlt)
      have HS := Lib.hid (foldL_take cs j hlt)
      have HE2 := Lib.hid ((HE.out.after hbw2).2)
      generalize hc : cs[j] = c at hnx hok HS
      clear hc hI
      by_cases c1 : 65 ≤ c ∧ c ≤ 90
      · obtain ⟨c1a, c1b⟩ := c1
        have d1 : decide ((65 : Int) ≤ (c : Int)) = true := by simp; omega
        have d2 : decide ((c : Int) ≤ 90) = true := by simp; omega
        go_wp2_with (go_at_call 50; refine (writeRune_any w.heap.size w.heap.size _ _ (by omega) (by omega) _ hI2 (by omega) hsz2).mono ?_; rintro e W1 ⟨rfl, h1, b1, k1⟩)
        go_roundw
        case rel =>
          refine ⟨j + 1, by omega, ?_, k1.iter hit2 (by omega), hbw2.trans b1⟩
          rw [HS.out]
          have e : foldc c = [c + 32] := by unfold foldc; rw [if_pos ⟨c1a, c1b⟩]
          have e2 : ((c : Int) - 65 + 97) = ((c + 32 : Nat) : Int) := by omega
          rw [e, cells_snoc, ← e2]
          exact Or.inr h1
        case measure =>
          rw [HM.out, pos_T _ _ _ _ (k1.iter hit2 (by omega))]; omega
      · by_cases c2 : 192 ≤ c ∧ c ≤ 255
        · obtain ⟨c2a, c2b⟩ := c2
          clear c1
          have d1 : decide ((65 : Int) ≤ (c : Int)) = true := by simp; omega
          have d2 : decide ((c : Int) ≤ 90) = false := by simp; omega
          have d3 : decide ((192 : Int) ≤ (c : Int)) = true := by simp; omega
          have d4 : decide ((c : Int) ≤ 255) = true := by simp; omega
          have hx := HE2.out (c - 192) (by omega)
          have hal := acc_OK ⟨c - 192, by omega⟩
          simp only at hal
          have HF : RowKit.Hid (foldc c = accL.getD (c - 192) []) := by
            unfold RowKit.Hid foldc
            rw [if_neg (by omega), if_pos ⟨c2a, c2b⟩]
          generalize accL.getD (c - 192) [] = x at hx hal HF
          have hxl : (T x).size ≤ 8 := by
            have := enc_le x
            rw [T_size]; omega
          have i0 : (0 : Int) ≤ (c : Int) - 192 := by omega
          have i1 : (c : Int) - 192 < 64 := by omega
          go_wp2_with (go_at_call 57; refine (writeString_any w.heap.size w.heap.size _ _ _ hI2 (by omega) hsz2).mono ?_; rintro e W1 ⟨rfl, h1, b1, k1⟩)
          go_roundw
          case rel =>
            refine ⟨j + 1, by omega, ?_, k1.iter hit2 (by omega), hbw2.trans b1⟩
            rw [HS.out, HF.out, cells_T]
            exact Or.inr h1
          case measure =>
            rw [HM.out, pos_T _ _ _ _ (k1.iter hit2 (by omega))]; omega
        · have HF : RowKit.Hid (foldc c = [c]) := by
            unfold RowKit.Hid foldc
            rw [if_neg c1, if_neg c2]
          have fin : ∀ W1, UsedB w.heap.size w.heap.size (Lib.byteCells (enc (foldL (List.take j cs))) ++ Lib.runeCells (c : Int)) W1 → IsB w.heap.size w.heap.size (Lib.byteCells (enc (foldL (cs.take (j + 1))))) W1 := by
            intro W1 h1
            rw [HS.out, HF.out, cells_snoc]
            exact Or.inr h1
          have HFin := Lib.hid fin
          clear fin
          by_cases p1 : 65 ≤ c
          · have d1 : decide ((65 : Int) ≤ (c : Int)) = true := by simp; omega
            have d2 : decide ((c : Int) ≤ 90) = false := by simp; omega
            by_cases p2 : 192 ≤ c
            · have d3 : decide ((192 : Int) ≤ (c : Int)) = true := by simp; omega
              have d4 : decide ((c : Int) ≤ 255) = false := by simp; omega
              clear c1 c2
              go_wp2_with (go_at_call 50; refine (writeRune_any w.heap.size w.heap.size _ _ (by omega) (by omega) _ hI2 (by omega) hsz2).mono ?_; rintro e W1 ⟨rfl, h1, b1, k1⟩)
              go_roundw
              case rel => exact ⟨j + 1, by omega, HFin.out _ h1, k1.iter hit2 (by omega), hbw2.trans b1⟩
              case measure => rw [HM.out, pos_T _ _ _ _ (k1.iter hit2 (by omega))]; omega
            · have d3 : decide ((192 : Int) ≤ (c : Int)) = false := by simp; omega
              clear c1 c2
              go_wp2_with (go_at_call 50; refine (writeRune_any w.heap.size w.heap.size _ _ (by omega) (by omega) _ hI2 (by omega) hsz2).mono ?_; rintro e W1 ⟨rfl, h1, b1, k1⟩)
              go_roundw
              case rel => exact ⟨j + 1, by omega, HFin.out _ h1, k1.iter hit2 (by omega), hbw2.trans b1⟩
              case measure => rw [HM.out, pos_T _ _ _ _ (k1.iter hit2 (by omega))]; omega
          · have d1 : decide ((65 : Int) ≤ (c : Int)) = false := by simp; omega
            have d3 : decide ((192 : Int) ≤ (c : Int)) = false := by simp; omega
            clear c1 c2
            go_wp2_with (go_at_call 50; refine (writeRune_any w.heap.size w.heap.size _ _ (by omega) (by omega) _ hI2 (by omega) hsz2).mono ?_; rintro e W1 ⟨rfl, h1, b1, k1⟩)
            go_roundw
            case rel => exact ⟨j + 1, by omega, HFin.out _ h1, k1.iter hit2 (by omega), hbw2.trans b1⟩
            case measure => rw [HM.out, pos_T _ _ _ _ (k1.iter hit2 (by omega))]; omega
    · have hje : j = cs.length := by omega
      have hnx : ∀ ty, (Instr.next (.pointer (some ⟨w.heap.size + 1, 0, none⟩)) true ty).run Tryd.prog wr = _ := fun ty => end_T wr (w.heap.size + 1) cs j hit hje ty
      have HJ := Lib.hid hje
      clear hje
      go_wp2_with (go_at_call 51; refine (Tryd.Builder_String_any_k w.heap.size w.heap.size (enc (foldL (cs.take j))) _ hI (by omega)).mono ?_; rintro e W1 ⟨rfl, _, b1, _⟩)
      go_ret
      refine ⟨?_, hbw.trans b1⟩
      rw [HJ.out, List.take_length]
      rfl

theorem fold_is (s t : ByteArray) (cs : List Nat) (h : OKs cs) (hs : s = T cs) (hz : cs.length ≤ 1000000) (ht : T (foldL cs) = t) (w : World) (hE : Acc w) :
    Calls Tryd.prog 54 #[.string s] w fun e w' => e = .returned (.string t) ∧ Below w.heap.size w w' := by
  have := fold_any cs h s hs hz w hE
  rwa [ht] at this
end

end Go.Proofs.YtjfbbpppdlaapaaDoor
