/- Merged: TClean, Acc, TFold, TLetter, Strs. -/
import Derived.Test.YthjdopnoophigaaGreatDoorQ01
import Derived.Test.YthjdopnoophigaaGreatDoorQ12
import Derived.Test.YthjdopnoophigaaGreatDoorQ08
import Derived.Laws.AppendOwn
namespace Go.Proofs.YthjdopnoophigaaGreatDoor

section
open Go.RowKit
set_option maxHeartbeats 4000000 in
theorem clean_any (cs : List Nat) (h : OKs cs) (s : ByteArray) (hs : s = T cs) (hz : cs.length ≤ 1000000) (w : World) :
    Calls Tryz.prog 130 #[.string s] w fun e w' => e = .returned (.string (T (cleanL cs))) ∧ Below w.heap.size w w' := by
  subst hs
  go_enter Tryz.func130, Tryz.ntmps130
  go_wp2
  go_loopw [4] (fun g wr => ∃ j : Nat, j ≤ cs.length ∧ g = .bool (cleanRun (cs.take j)).2 ∧ IsB w.heap.size w.heap.size (Lib.byteCells (enc (cleanRun (cs.take j)).1)) wr ∧ wr.heap[w.heap.size + 1]? = some (.stringIter (T cs) (off cs j)) ∧ Below w.heap.size w wr) (fun _ wr => (T cs).size - wr.iterPos (w.heap.size + 1))
  case atStart =>
    refine ⟨0, Nat.zero_le _, rfl, (Lib.IsBuilderF.of (Lib.fresh_isBuilder _ _ w)).alloc _, ?_, ((Below.refl _ w).alloc (Nat.le_refl _) _).alloc (by simp) _⟩
    rw [off_zero]
    have := World.iter_heap (w.alloc (.cells #[.pointer none, .slice none 0 0] 87)) (T cs) 0
    simpa using this
  case round =>
    obtain ⟨j, hj, rfl, hI, hit, hbw⟩ := hrel
    have hsz : w.heap.size + 1 < wr.heap.size := (Array.getElem?_eq_some_iff.1 hit).1
    have hl1 := cleanRun_len (cs.take j)
    have hl2 := cells_len (cleanRun (cs.take j)).1
    have hl3 : (cs.take j).length ≤ j := List.length_take_le _ _
    by_cases hlt : j < cs.length
    · have hnx : ∀ ty, (Instr.next (.pointer (some ⟨w.heap.size + 1, 0, none⟩)) true ty).run Tryz.prog wr = _ := fun ty => next_T wr (w.heap.size + 1) cs h j hit hlt ty
      have hit2 := Lib.iterAt_heap wr (w.heap.size + 1) (T cs) (off cs j) (off cs (j + 1)) hit
      have hbw2 := Lib.below_iterAt hbw (k := w.heap.size + 1) (by omega) (T cs) (off cs (j + 1))
      have hI2 := hI.iterAt hit (off cs (j + 1))
      have hsz2 : w.heap.size ≤ (wr.iterAt (w.heap.size + 1) (T cs) (off cs (j + 1))).heap.size := by rw [Lib.iterAt_size]; omega
      have hm1 := pos_T _ _ _ _ hit
      have HM := Lib.hid hm1
      clear hm1
      have hol := off_lt cs j hlt
      have hoj := off_inj cs j (j + 1) (by omega) (by omega)
      have hok := okc_le (OKs_get h hlt)
      have HS := Lib.hid (cleanRun_take cs j hlt)
      obtain ⟨out, gap, hst⟩ : ∃ out gap, cleanRun (cs.take j) = (out, gap) := ⟨_, _, rfl⟩
      rw [hst] at hI2 hl1 hl2 HS
      rw [hst]
      clear hst hI
      simp only at hI2 hl1 hl2
      cases hb : blankc cs[j]
      · have HB := Lib.hid hb
        clear hb
        cases gap
        · go_wp2_with (first | (go_at_call 159; refine (blank_any _ (by omega) false HB.out _).mono ?_; rintro e w' ⟨rfl, rfl⟩) | (go_at_call 161; refine (writeRune_any w.heap.size w.heap.size _ _ (by omega) (by omega) _ hI2 (by omega) hsz2).mono ?_; rintro e W1 ⟨rfl, h1, b1, k1⟩))
          go_roundw
          case rel =>
            refine ⟨j + 1, by omega, ?_, ?_, k1.iter hit2 (by omega), hbw2.trans b1⟩
            · rw [HS.out]; simp [cleanStep, HB.out]
            · rw [HS.out]
              have e : (cleanStep (out, false) cs[j]).1 = out ++ [cs[j]] := by simp [cleanStep, HB.out]
              rw [e, cells_snoc]
              exact Or.inr h1
          case measure =>
            rw [HM.out, pos_T _ _ _ _ (k1.iter hit2 (by omega))]; omega
        · by_cases hne : out = []
          · subst hne
            have hL := Tryz.Builder_Len_f w.heap.size w.heap.size _ _ hI2
            have e0 : (Lib.byteCells (enc [])).length = 0 := rfl
            rw [e0] at hL
            go_wp2_with (first | (go_at_call 159; refine (blank_any _ (by omega) false HB.out _).mono ?_; rintro e w' ⟨rfl, rfl⟩) | (go_at_call 160; refine hL.mono ?_; rintro e w' ⟨rfl, rfl⟩) | (go_at_call 161; refine (writeRune_any w.heap.size w.heap.size _ _ (by omega) (by omega) _ hI2 (by omega) hsz2).mono ?_; rintro e W1 ⟨rfl, h1, b1, k1⟩))
            go_roundw
            case rel =>
              refine ⟨j + 1, by omega, ?_, ?_, k1.iter hit2 (by omega), hbw2.trans b1⟩
              · rw [HS.out]; simp [cleanStep, HB.out]
              · rw [HS.out]
                have e : (cleanStep ([], true) cs[j]).1 = [] ++ [cs[j]] := by simp [cleanStep, HB.out]
                rw [e, cells_snoc]
                exact Or.inr h1
            case measure =>
              rw [HM.out, pos_T _ _ _ _ (k1.iter hit2 (by omega))]; omega
          · have hL := Tryz.Builder_Len_f w.heap.size w.heap.size _ _ hI2
            have hpos : 0 < (Lib.byteCells (enc out)).length := by
              rw [Lib.byteCells_length, ← T_size]
              rcases Nat.eq_zero_or_pos (T out).size with h0 | h0
              · exact absurd ((T_size_zero out).1 h0) hne
              · exact h0
            generalize hN : (Lib.byteCells (enc out)).length = N at hL hpos
            have HN := Lib.hid hN
            clear hN
            have hpi : decide ((0 : Int) < (N : Int)) = true := by simp; omega
            go_wp2_with (first | (go_at_call 159; refine (blank_any _ (by omega) false HB.out _).mono ?_; rintro e w' ⟨rfl, rfl⟩) | (go_at_call 160; refine hL.mono ?_; rintro e w' ⟨rfl, rfl⟩) | (go_at_call 59; refine (writeByte_any w.heap.size w.heap.size _ 32 _ hI2 (by omega) hsz2).mono ?_; rintro e W0 ⟨rfl, h0, b0, k0⟩) | (go_at_call 161; refine (writeRune_any w.heap.size w.heap.size _ _ (by omega) (by omega) _ (Or.inr h0) (by rw [List.length_append]; simp; omega) (by have := b0.size; omega)).mono ?_; rintro e W1 ⟨rfl, h1, b1, k1⟩))
            go_roundw
            case rel =>
              refine ⟨j + 1, by omega, ?_, ?_, k1.iter (k0.iter hit2 (by omega)) (by omega), (hbw2.trans b0).trans b1⟩
              · rw [HS.out]; simp [cleanStep, HB.out]
              · rw [HS.out]
                have e : (cleanStep (out, true) cs[j]).1 = (out ++ [32]) ++ [cs[j]] := by simp [cleanStep, HB.out, hne]
                rw [e, cells_snoc, cells_32]
                exact Or.inr h1
            case measure =>
              rw [HM.out, pos_T _ _ _ _ (k1.iter (k0.iter hit2 (by omega)) (by omega))]; omega
      · have HB := Lib.hid hb
        clear hb
        go_wp2_with (go_at_call 159; refine (blank_any _ (by omega) true HB.out _).mono ?_; rintro e w' ⟨rfl, rfl⟩)
        go_roundw
        case rel =>
          refine ⟨j + 1, by omega, ?_, ?_, hit2, hbw2⟩
          · rw [HS.out]; simp [cleanStep, HB.out]
          · rw [HS.out]
            have e : (cleanStep (out, gap) cs[j]).1 = out := by simp [cleanStep, HB.out]
            rw [e]
            exact hI2
        case measure =>
          rw [HM.out, pos_T _ _ _ _ hit2]; omega
    · have hje : j = cs.length := by omega
      have hnx : ∀ ty, (Instr.next (.pointer (some ⟨w.heap.size + 1, 0, none⟩)) true ty).run Tryz.prog wr = _ := fun ty => end_T wr (w.heap.size + 1) cs j hit hje ty
      have HJ := Lib.hid hje
      clear hje
      go_wp2_with (go_at_call 60; refine (Tryz.Builder_String_any_k w.heap.size w.heap.size (enc (cleanRun (cs.take j)).1) _ hI (by omega)).mono ?_; rintro e W1 ⟨rfl, _, b1, _⟩)
      go_ret
      refine ⟨?_, hbw.trans b1⟩
      rw [HJ.out, List.take_length]
      rfl

theorem clean_is (s t : ByteArray) (cs : List Nat) (h : OKs cs) (hs : s = T cs) (hz : cs.length ≤ 1000000) (ht : T (cleanL cs) = t) (w : World) :
    Calls Tryz.prog 130 #[.string s] w fun e w' => e = .returned (.string t) ∧ Below w.heap.size w w' := by
  have := clean_any cs h s hs hz w
  rwa [ht] at this
end

section
open Go.RowKit
/-- The table of folded forms lies in its block. -/
def Acc (w : World) : Prop := 5 < w.heap.size ∧ ∀ i, i < 64 → w.cell? ⟨5, i, none⟩ = some (.string (T (accL.getD i [])))
theorem Acc.after {w w' : World} (h : Acc w) (hb : Below w.heap.size w w') : Acc w' := by
  obtain ⟨h1, h4⟩ := h
  refine ⟨Nat.lt_of_lt_of_le h1 hb.size, fun i hi => ?_⟩
  rw [hb.cell (p := ⟨5, i, none⟩) h1]
  exact h4 i hi
end

section
open Go.RowKit
theorem acc_OK : ∀ i : Fin 64, (accL.getD i.val []).length ≤ 2 := by decide

theorem foldL_len_take (cs : List Nat) (j : Nat) : (foldL (cs.take j)).length ≤ 2 * j := by
  have h1 := fold_len (cs.take j)
  have h2 : (cs.take j).length ≤ j := List.length_take_le _ _
  omega

set_option maxHeartbeats 4000000 in
theorem fold_any (cs : List Nat) (h : OKs cs) (s : ByteArray) (hs : s = T cs) (hz : cs.length ≤ 1000000) (w : World) (hE : Acc w) :
    Calls Tryz.prog 171 #[.string s] w fun e w' => e = .returned (.string (T (foldL cs))) ∧ Below w.heap.size w w' := by
  subst hs
  have HE := Lib.hid hE
  clear hE
  go_enter Tryz.func171, Tryz.ntmps171
  go_wp2
  go_loopw [] (fun wr => ∃ j : Nat, j ≤ cs.length ∧ IsB w.heap.size w.heap.size (Lib.byteCells (enc (foldL (cs.take j)))) wr ∧ wr.heap[w.heap.size + 1]? = some (.stringIter (T cs) (off cs j)) ∧ Below w.heap.size w wr) (fun wr => (T cs).size - wr.iterPos (w.heap.size + 1))
  case atStart =>
    refine ⟨0, Nat.zero_le _, (Lib.IsBuilderF.of (Lib.fresh_isBuilder _ _ w)).alloc _, ?_, ((Below.refl _ w).alloc (Nat.le_refl _) _).alloc (by simp) _⟩
    rw [off_zero]
    have := World.iter_heap (w.alloc (.cells #[.pointer none, .slice none 0 0] 87)) (T cs) 0
    simpa using this
  case round =>
    obtain ⟨j, hj, hI, hit, hbw⟩ := hrel
    have hsz : w.heap.size + 1 < wr.heap.size := (Array.getElem?_eq_some_iff.1 hit).1
    have hl1 := foldL_len_take cs j
    have hl2 := cells_len (foldL (cs.take j))
    by_cases hlt : j < cs.length
    · have hnx : ∀ ty, (Instr.next (.pointer (some ⟨w.heap.size + 1, 0, none⟩)) true ty).run Tryz.prog wr = _ := fun ty => next_T wr (w.heap.size + 1) cs h j hit hlt ty
      have hit2 := Lib.iterAt_heap wr (w.heap.size + 1) (T cs) (off cs j) (off cs (j + 1)) hit
      have hbw2 := Lib.below_iterAt hbw (k := w.heap.size + 1) (by omega) (T cs) (off cs (j + 1))
      have hI2 := hI.iterAt hit (off cs (j + 1))
      have hsz2 : w.heap.size ≤ (wr.iterAt (w.heap.size + 1) (T cs) (off cs (j + 1))).heap.size := by rw [Lib.iterAt_size]; omega
      have HM := Lib.hid (pos_T _ _ _ _ hit)
      have hol := off_lt cs j hlt
      have hoj := off_inj cs j (j + 1) (by omega) (by omega)
      have hok := okc_le (OKs_get h hlt)
      have HS := Lib.hid (foldL_take cs j hlt)
      have HE2 := Lib.hid ((HE.out.after hbw2).2)
      generalize hc : cs[j] = c at hnx hok HS
      clear hc hI
      by_cases c1 : 65 ≤ c ∧ c ≤ 90
      · obtain ⟨c1a, c1b⟩ := c1
        have d1 : decide ((65 : Int) ≤ (c : Int)) = true := by simp; omega
        have d2 : decide ((c : Int) ≤ 90) = true := by simp; omega
        go_wp2_with (go_at_call 161; refine (writeRune_any w.heap.size w.heap.size _ _ (by omega) (by omega) _ hI2 (by omega) hsz2).mono ?_; rintro e W1 ⟨rfl, h1, b1, k1⟩)
        go_roundw
        case rel =>
          refine ⟨j + 1, by omega, ?_, k1.iter hit2 (by omega), hbw2.trans b1⟩
          rw [HS.out]
          have e : foldc c = [c + 32] := by unfold foldc; rw [if_pos ⟨c1a, c1b⟩]
          have e2 : ((c : Int) - 65 + 97) = ((c + 32 : Nat) : Int) := by omega
          rw [e, cells_snoc, ← e2]
          exact Or.inr h1
        case measure =>
          rw [HM.out, pos_T _ _ _ _ (k1.iter hit2 (by omega))]; omega
      · by_cases c2 : 192 ≤ c ∧ c ≤ 255
        · obtain ⟨c2a, c2b⟩ := c2
          clear c1
          have d1 : decide ((65 : Int) ≤ (c : Int)) = true := by simp; omega
          have d2 : decide ((c : Int) ≤ 90) = false := by simp; omega
          have d3 : decide ((192 : Int) ≤ (c : Int)) = true := by simp; omega
          have d4 : decide ((c : Int) ≤ 255) = true := by simp; omega
          have hx := HE2.out (c - 192) (by omega)
          have hal := acc_OK ⟨c - 192, by omega⟩
          simp only at hal
          have HF : RowKit.Hid (foldc c = accL.getD (c - 192) []) := by
            unfold RowKit.Hid foldc
            rw [if_neg (by omega), if_pos ⟨c2a, c2b⟩]
          generalize accL.getD (c - 192) [] = x at hx hal HF
          have hxl : (T x).size ≤ 8 := by
            have := enc_le x
            rw [T_size]; omega
          have i0 : (0 : Int) ≤ (c : Int) - 192 := by omega
          have i1 : (c : Int) - 192 < 64 := by omega
          go_wp2_with (go_at_call 56; refine (writeString_any w.heap.size w.heap.size _ _ _ hI2 (by omega) hsz2).mono ?_; rintro e W1 ⟨rfl, h1, b1, k1⟩)
          go_roundw
          case rel =>
            refine ⟨j + 1, by omega, ?_, k1.iter hit2 (by omega), hbw2.trans b1⟩
            rw [HS.out, HF.out, cells_T]
            exact Or.inr h1
          case measure =>
            rw [HM.out, pos_T _ _ _ _ (k1.iter hit2 (by omega))]; omega
        · have HF : RowKit.Hid (foldc c = [c]) := by
            unfold RowKit.Hid foldc
            rw [if_neg c1, if_neg c2]
          have fin : ∀ W1, UsedB w.heap.size w.heap.size (Lib.byteCells (enc (foldL (List.take j cs))) ++ Lib.runeCells (c : Int)) W1 → IsB w.heap.size w.heap.size (Lib.byteCells (enc (foldL (cs.take (j + 1))))) W1 := by
            intro W1 h1
            rw [HS.out, HF.out, cells_snoc]
            exact Or.inr h1
          have HFin := Lib.hid fin
          clear fin
          by_cases p1 : 65 ≤ c
          · have d1 : decide ((65 : Int) ≤ (c : Int)) = true := by simp; omega
            have d2 : decide ((c : Int) ≤ 90) = false := by simp; omega
            by_cases p2 : 192 ≤ c
            · have d3 : decide ((192 : Int) ≤ (c : Int)) = true := by simp; omega
              have d4 : decide ((c : Int) ≤ 255) = false := by simp; omega
              clear c1 c2
              go_wp2_with (go_at_call 161; refine (writeRune_any w.heap.size w.heap.size _ _ (by omega) (by omega) _ hI2 (by omega) hsz2).mono ?_; rintro e W1 ⟨rfl, h1, b1, k1⟩)
              go_roundw
              case rel => exact ⟨j + 1, by omega, HFin.out _ h1, k1.iter hit2 (by omega), hbw2.trans b1⟩
              case measure => rw [HM.out, pos_T _ _ _ _ (k1.iter hit2 (by omega))]; omega
            · have d3 : decide ((192 : Int) ≤ (c : Int)) = false := by simp; omega
              clear c1 c2
              go_wp2_with (go_at_call 161; refine (writeRune_any w.heap.size w.heap.size _ _ (by omega) (by omega) _ hI2 (by omega) hsz2).mono ?_; rintro e W1 ⟨rfl, h1, b1, k1⟩)
              go_roundw
              case rel => exact ⟨j + 1, by omega, HFin.out _ h1, k1.iter hit2 (by omega), hbw2.trans b1⟩
              case measure => rw [HM.out, pos_T _ _ _ _ (k1.iter hit2 (by omega))]; omega
          · have d1 : decide ((65 : Int) ≤ (c : Int)) = false := by simp; omega
            have d3 : decide ((192 : Int) ≤ (c : Int)) = false := by simp; omega
            clear c1 c2
            go_wp2_with (go_at_call 161; refine (writeRune_any w.heap.size w.heap.size _ _ (by omega) (by omega) _ hI2 (by omega) hsz2).mono ?_; rintro e W1 ⟨rfl, h1, b1, k1⟩)
            go_roundw
            case rel => exact ⟨j + 1, by omega, HFin.out _ h1, k1.iter hit2 (by omega), hbw2.trans b1⟩
            case measure => rw [HM.out, pos_T _ _ _ _ (k1.iter hit2 (by omega))]; omega
    · have hje : j = cs.length := by omega
      have hnx : ∀ ty, (Instr.next (.pointer (some ⟨w.heap.size + 1, 0, none⟩)) true ty).run Tryz.prog wr = _ := fun ty => end_T wr (w.heap.size + 1) cs j hit hje ty
      have HJ := Lib.hid hje
      clear hje
      go_wp2_with (go_at_call 60; refine (Tryz.Builder_String_any_k w.heap.size w.heap.size (enc (foldL (cs.take j))) _ hI (by omega)).mono ?_; rintro e W1 ⟨rfl, _, b1, _⟩)
      go_ret
      refine ⟨?_, hbw.trans b1⟩
      rw [HJ.out, List.take_length]
      rfl

theorem fold_is (s t : ByteArray) (cs : List Nat) (h : OKs cs) (hs : s = T cs) (hz : cs.length ≤ 1000000) (ht : T (foldL cs) = t) (w : World) (hE : Acc w) :
    Calls Tryz.prog 171 #[.string s] w fun e w' => e = .returned (.string t) ∧ Below w.heap.size w w' := by
  have := fold_any cs h s hs hz w hE
  rwa [ht] at this
end

section
open Go.RowKit
set_option maxHeartbeats 1000000 in
theorem letter_any (c : Nat) (hc : c ≤ 1114111) (b : Bool) (hb : letterc c = b) (w : World) :
    Calls Tryz.prog 172 #[.int .i32 (c : Int)] w fun e w' => e = .returned (.bool b) ∧ w = w' := by
  have H := Lib.hid hb
  clear hb
  by_cases h6 : 256 ≤ c
  · obtain rfl : b = true := by have := H.out; rw [← this]; simp [letterc, h6]
    have d1 : decide ((97 : Int) ≤ (c : Int)) = true := by simp; omega
    have d2 : decide ((c : Int) ≤ 122) = false := by simp; omega
    have d3 : decide ((48 : Int) ≤ (c : Int)) = true := by simp; omega
    have d4 : decide ((c : Int) ≤ 57) = false := by simp; omega
    have d5 : decide ((256 : Int) ≤ (c : Int)) = true := by simp; omega
    clear H h6
    go_enter Tryz.func172, Tryz.ntmps172
    go_wp2
    go_ret
    exact ⟨rfl, rfl⟩
  · have d5 : decide ((256 : Int) ≤ (c : Int)) = false := by simp; omega
    by_cases h1 : 97 ≤ c
    · have d1 : decide ((97 : Int) ≤ (c : Int)) = true := by simp; omega
      by_cases h2 : c ≤ 122
      · obtain rfl : b = true := by have := H.out; rw [← this]; simp [letterc, h1, h2]
        have d2 : decide ((c : Int) ≤ 122) = true := by simp; omega
        clear H h1 h2 h6
        go_enter Tryz.func172, Tryz.ntmps172
        go_wp2
        go_ret
        exact ⟨rfl, rfl⟩
      · obtain rfl : b = false := by have := H.out; rw [← this]; simp [letterc, h2]; omega
        have d2 : decide ((c : Int) ≤ 122) = false := by simp; omega
        have d3 : decide ((48 : Int) ≤ (c : Int)) = true := by simp; omega
        have d4 : decide ((c : Int) ≤ 57) = false := by simp; omega
        clear H h1 h2 h6
        go_enter Tryz.func172, Tryz.ntmps172
        go_wp2
        go_ret
        exact ⟨rfl, rfl⟩
    · have d1 : decide ((97 : Int) ≤ (c : Int)) = false := by simp; omega
      by_cases h3 : 48 ≤ c
      · have d3 : decide ((48 : Int) ≤ (c : Int)) = true := by simp; omega
        by_cases h4 : c ≤ 57
        · obtain rfl : b = true := by have := H.out; rw [← this]; simp [letterc, h3, h4]
          have d4 : decide ((c : Int) ≤ 57) = true := by simp; omega
          clear H h1 h3 h4 h6
          go_enter Tryz.func172, Tryz.ntmps172
          go_wp2
          go_ret
          exact ⟨rfl, rfl⟩
        · obtain rfl : b = false := by have := H.out; rw [← this]; simp [letterc, h4]; omega
          have d4 : decide ((c : Int) ≤ 57) = false := by simp; omega
          clear H h1 h3 h4 h6
          go_enter Tryz.func172, Tryz.ntmps172
          go_wp2
          go_ret
          exact ⟨rfl, rfl⟩
      · obtain rfl : b = false := by have := H.out; rw [← this]; simp [letterc]; omega
        have d3 : decide ((48 : Int) ≤ (c : Int)) = false := by simp; omega
        clear H h1 h3 h6
        go_enter Tryz.func172, Tryz.ntmps172
        go_wp2
        go_ret
        exact ⟨rfl, rfl⟩
end

section
open Go.RowKit
def strV (x : List Nat) : Value := .string (T x)

/-- A slice of strings in memory from block B on: these words. -/
abbrev Strs (B : Nat) (v : Value) (ws : List (List Nat)) (w : World) : Prop := w.ownsRow B 9 1 v ws.length (ws.map strV)

theorem infoStr : (Tryz.prog.info? 9).map (fun i => (i.zero, i.size, i.bytes)) = some (some (.string ⟨#[]⟩), 1, 16) := by kernel_rfl

theorem ownsRow_iterAt {w : World} {B e size n : Nat} {v : Value} {xs : List Value} (h : w.ownsRow B e size v n xs) {k : Nat} (hk : k < B) (s : ByteArray) (p : Nat) : (w.iterAt k s p).ownsRow B e size v n xs := by
  refine ⟨h.1, ?_⟩
  rcases h.2 with hn | ⟨g, cap, cur, hv, hb, hg, rest⟩
  · exact .inl hn
  · exact .inr ⟨g, cap, cur, hv, hb, (Lib.iterAt_other w k g s p (by omega)).trans hg, rest⟩

/-- A slice of strings, opened. -/
theorem Strs.open {B : Nat} {v : Value} {ws : List (List Nat)} {w : World} (h : Strs B v ws w) (hne : ws ≠ []) :
    ∃ g cap, v = .slice (some ⟨g, 0, none⟩) ws.length cap ∧ B ≤ g ∧ g < w.heap.size ∧ ws.length ≤ cap ∧ cap ≤ maxLen ∧ ∀ i (hi : i < ws.length), w.cell? ⟨g, i, none⟩ = some (.string (T ws[i])) := by
  rcases h.2 with ⟨_, h0⟩ | ⟨g, cap, cur, rfl, hb, hg, hc, hm, hs, ht⟩
  · exact absurd (List.eq_nil_of_length_eq_zero h0) hne
  · refine ⟨g, cap, rfl, hb, (Array.getElem?_eq_some_iff.1 hg).1, hc, hm, fun i hi => ?_⟩
    have := h.cells (g := g) rfl i (.string (T ws[i])) (by simp [strV, hi])
    have hadd : (⟨g, 0, none⟩ : Addr).add i = ⟨g, i, none⟩ := by unfold Addr.add; split <;> simp_all
    rwa [hadd] at this

theorem Strs.form {B : Nat} {v : Value} {ws : List (List Nat)} {w : World} (h : Strs B v ws w) : ∃ ao cap, v = .slice ao ws.length cap := by
  rcases h.2 with ⟨hv, h0⟩ | ⟨g, cap, cur, hv, _⟩
  · exact ⟨none, 0, by rw [hv, h0]⟩
  · exact ⟨_, _, hv⟩

theorem Strs.below {B B' : Nat} {v : Value} {ws : List (List Nat)} {w w' : World} (h : Strs B v ws w) (hb : Below B' w w') (hB : w.heap.size ≤ B') : Strs B v ws w' := by
  refine ⟨h.1, ?_⟩
  rcases h.2 with hn | ⟨g, cap, cur, hv, hB', hg, rest⟩
  · exact .inl hn
  · have hlt : g < w.heap.size := (Array.getElem?_eq_some_iff.1 hg).1
    exact .inr ⟨g, cap, cur, hv, hB', (hb.block g (by omega)).trans hg, rest⟩

theorem Strs.after {B : Nat} {v : Value} {ws : List (List Nat)} {w w' : World} (h : Strs B v ws w) (hb : Below w.heap.size w w') : Strs B v ws w' := h.below hb (Nat.le_refl _)

theorem cut_T (cs : List Nat) (k : Nat) (hk : k < cs.length) : (T cs).extract (off cs k) (off cs (k + 1)) = T [cs[k]] := by
  rw [extract_T]
  congr 1
  rw [List.take_succ_eq_append_getElem hk, List.drop_append_of_le_length (by rw [List.length_take]; omega), List.drop_eq_nil_of_le (by rw [List.length_take]; omega)]
  rfl

theorem T_append (a b : List Nat) : T a ++ T b = T (a ++ b) := by
  apply eq_T
  rw [ByteArray.data_append, Array.toList_append, T_list, T_list, enc_append]

theorem T_bound (a : List Nat) : (T a).size ≤ 4 * a.length := by rw [T_size]; exact enc_le a

theorem T_facts (x : List Nat) (h : x ≠ []) : (T x).toList.isEmpty = false ∧ ¬ (T x).toList = [] := by
  have h1 : 0 < (T x).size := by
    rcases Nat.eq_zero_or_pos (T x).size with h0 | h0
    · exact absurd ((T_size_zero x).1 h0) h
    · exact h0
  have h2 : (T x).toList = enc x := by
    rw [← T_list]
    exact ByteArray.toList_eq _
  have h3 : ¬ enc x = [] := by
    intro h0
    rw [T_size, h0] at h1
    exact absurd h1 (by simp)
  rw [h2]
  refine ⟨?_, h3⟩
  cases he : enc x with
  | nil => exact absurd he h3
  | cons _ _ => rfl
end

end Go.Proofs.YthjdopnoophigaaGreatDoor
