/- Merged: TFold, TLetter, TWords, Plain12E. -/
import Derived.Test.YtfjfpefpdlecbaaGreatDoorQ20
import Derived.Test.YtfjfpefpdlecbaaGreatDoorQ04
import Derived.Test.YtfjfpefpdlecbaaGreatDoorQ09
import Derived.Test.YtfjfpefpdlecbaaGreatDoorQ12
import Derived.Lib.Split
import Derived.Lib.IndexMore
import Derived.Lib.Join
import Derived.Lib.Strings
namespace Go.Proofs.YtfjfpefpdlecbaaGreatDoor

section
open Go.RowKit
theorem acc_OK : ∀ i : Fin 64, (accL.getD i.val []).length ≤ 2 := by decide

theorem foldL_len_take (cs : List Nat) (j : Nat) : (foldL (cs.take j)).length ≤ 2 * j := by
  have h1 := fold_len (cs.take j)
  have h2 : (cs.take j).length ≤ j := List.length_take_le _ _
  omega

set_option maxHeartbeats 4000000 in
theorem fold_any (cs : List Nat) (h : OKs cs) (s : ByteArray) (hs : s = T cs) (hz : cs.length ≤ 1000000) (w : World) (hE : Acc w) :
    Calls Tryz.prog 128 #[.string s] w fun e w' => e = .returned (.string (T (foldL cs))) ∧ Below w.heap.size w w' := by
  subst hs
  have HE := Lib.hid hE
  clear hE
  go_enter Tryz.func128, Tryz.ntmps128
  go_wp2
  go_loopw [] (fun wr => ∃ j : Nat, j ≤ cs.length ∧ IsB w.heap.size w.heap.size (Lib.byteCells (enc (foldL (cs.take j)))) wr ∧ wr.heap[w.heap.size + 1]? = some (.stringIter (T cs) (off cs j)) ∧ Below w.heap.size w wr) (fun wr => (T cs).size - wr.iterPos (w.heap.size + 1))
  case atStart =>
    refine ⟨0, Nat.zero_le _, (Lib.IsBuilderF.of (Lib.fresh_isBuilder _ _ w)).alloc _, ?_, ((Below.refl _ w).alloc (Nat.le_refl _) _).alloc (by simp) _⟩
    rw [off_zero]
    have := World.iter_heap (w.alloc (.cells #[.pointer none, .slice none 0 0] 136)) (T cs) 0
    simpa using this
  case round =>
    obtain ⟨j, hj, hI, hit, hbw⟩ := hrel
    have hsz : w.heap.size + 1 < wr.heap.size := (Array.getElem?_eq_some_iff.1 hit).1
    have hl1 := foldL_len_take cs j
    have hl2 := cells_len (foldL (cs.take j))
    by_cases hlt : j < cs.length
    · have hnx : ∀ ty, (Instr.next (.pointer (some ⟨w.heap.size + 1, 0, none⟩)) true ty).run Tryz.prog wr = _ := fun ty => next_T wr (w.heap.size + 1) cs h j hit hlt ty
      have hit2 := Lib.iterAt_heap wr (w.heap.size + 1) (T cs) (off cs j) (off cs (j + 1)) hit
      have hbw2 := Lib.below_iterAt hbw (k := w.heap.size + 1) (by omega) (T cs) (off cs (j + 1))
      have hI2 := hI.iterAt hit (off cs (j + 1))
      have hsz2 : w.heap.size ≤ (wr.iterAt (w.heap.size + 1) (T cs) (off cs (j + 1))).heap.size := by rw [Lib.iterAt_size]; omega
      have HM := Lib.hid (pos_T _ _ _ _ hit)
      have hol := off_lt cs j hlt
      have hoj := off_inj cs j (j + 1) (by omega) (by omega)
      have hok := okc_le (OKs_get h hlt)
      have HS := Lib.hid (foldL_take cs j hlt)
      have HE2 := Lib.hid ((HE.out.after hbw2).2)
      generalize hc : cs[j] = c at hnx hok HS
      clear hc hI
      by_cases c1 : 65 ≤ c ∧ c ≤ 90
      · obtain ⟨c1a, c1b⟩ := c1
        have d1 : decide ((65 : Int) ≤ (c : Int)) = true := by simp; omega
        have d2 : decide ((c : Int) ≤ 90) = true := by simp; omega
        go_wp2_with (go_at_call 160; refine (writeRune_any w.heap.size w.heap.size _ _ (by omega) (by omega) _ hI2 (by omega) hsz2).mono ?_; rintro e W1 ⟨rfl, h1, b1, k1⟩)
        go_roundw
        case rel =>
          refine ⟨j + 1, by omega, ?_, k1.iter hit2 (by omega), hbw2.trans b1⟩
          rw [HS.out]
          have e : foldc c = [c + 32] := by unfold foldc; rw [if_pos ⟨c1a, c1b⟩]
          have e2 : ((c : Int) - 65 + 97) = ((c + 32 : Nat) : Int) := by omega
          rw [e, cells_snoc, ← e2]
          exact Or.inr h1
        case measure =>
          rw [HM.out, pos_T _ _ _ _ (k1.iter hit2 (by omega))]; omega
      · by_cases c2 : 192 ≤ c ∧ c ≤ 255
        · obtain ⟨c2a, c2b⟩ := c2
          clear c1
          have d1 : decide ((65 : Int) ≤ (c : Int)) = true := by simp; omega
          have d2 : decide ((c : Int) ≤ 90) = false := by simp; omega
          have d3 : decide ((192 : Int) ≤ (c : Int)) = true := by simp; omega
          have d4 : decide ((c : Int) ≤ 255) = true := by simp; omega
          have hx := HE2.out (c - 192) (by omega)
          have hal := acc_OK ⟨c - 192, by omega⟩
          simp only at hal
          have HF : RowKit.Hid (foldc c = accL.getD (c - 192) []) := by
            unfold RowKit.Hid foldc
            rw [if_neg (by omega), if_pos ⟨c2a, c2b⟩]
          generalize accL.getD (c - 192) [] = x at hx hal HF
          have hxl : (T x).size ≤ 8 := by
            have := enc_le x
            rw [T_size]; omega
          have i0 : (0 : Int) ≤ (c : Int) - 192 := by omega
          have i1 : (c : Int) - 192 < 64 := by omega
          go_wp2_with (go_at_call 126; refine (writeString_any w.heap.size w.heap.size _ _ _ hI2 (by omega) hsz2).mono ?_; rintro e W1 ⟨rfl, h1, b1, k1⟩)
          go_roundw
          case rel =>
            refine ⟨j + 1, by omega, ?_, k1.iter hit2 (by omega), hbw2.trans b1⟩
            rw [HS.out, HF.out, cells_T]
            exact Or.inr h1
          case measure =>
            rw [HM.out, pos_T _ _ _ _ (k1.iter hit2 (by omega))]; omega
        · have HF : RowKit.Hid (foldc c = [c]) := by
            unfold RowKit.Hid foldc
            rw [if_neg c1, if_neg c2]
          have fin : ∀ W1, UsedB w.heap.size w.heap.size (Lib.byteCells (enc (foldL (List.take j cs))) ++ Lib.runeCells (c : Int)) W1 → IsB w.heap.size w.heap.size (Lib.byteCells (enc (foldL (cs.take (j + 1))))) W1 := by
            intro W1 h1
            rw [HS.out, HF.out, cells_snoc]
            exact Or.inr h1
          have HFin := Lib.hid fin
          clear fin
          by_cases p1 : 65 ≤ c
          · have d1 : decide ((65 : Int) ≤ (c : Int)) = true := by simp; omega
            have d2 : decide ((c : Int) ≤ 90) = false := by simp; omega
            by_cases p2 : 192 ≤ c
            · have d3 : decide ((192 : Int) ≤ (c : Int)) = true := by simp; omega
              have d4 : decide ((c : Int) ≤ 255) = false := by simp; omega
              clear c1 c2
              go_wp2_with (go_at_call 160; refine (writeRune_any w.heap.size w.heap.size _ _ (by omega) (by omega) _ hI2 (by omega) hsz2).mono ?_; rintro e W1 ⟨rfl, h1, b1, k1⟩)
              go_roundw
              case rel => exact ⟨j + 1, by omega, HFin.out _ h1, k1.iter hit2 (by omega), hbw2.trans b1⟩
              case measure => rw [HM.out, pos_T _ _ _ _ (k1.iter hit2 (by omega))]; omega
            · have d3 : decide ((192 : Int) ≤ (c : Int)) = false := by simp; omega
              clear c1 c2
              go_wp2_with (go_at_call 160; refine (writeRune_any w.heap.size w.heap.size _ _ (by omega) (by omega) _ hI2 (by omega) hsz2).mono ?_; rintro e W1 ⟨rfl, h1, b1, k1⟩)
              go_roundw
              case rel => exact ⟨j + 1, by omega, HFin.out _ h1, k1.iter hit2 (by omega), hbw2.trans b1⟩
              case measure => rw [HM.out, pos_T _ _ _ _ (k1.iter hit2 (by omega))]; omega
          · have d1 : decide ((65 : Int) ≤ (c : Int)) = false := by simp; omega
            have d3 : decide ((192 : Int) ≤ (c : Int)) = false := by simp; omega
            clear c1 c2
            go_wp2_with (go_at_call 160; refine (writeRune_any w.heap.size w.heap.size _ _ (by omega) (by omega) _ hI2 (by omega) hsz2).mono ?_; rintro e W1 ⟨rfl, h1, b1, k1⟩)
            go_roundw
            case rel => exact ⟨j + 1, by omega, HFin.out _ h1, k1.iter hit2 (by omega), hbw2.trans b1⟩
            case measure => rw [HM.out, pos_T _ _ _ _ (k1.iter hit2 (by omega))]; omega
    · have hje : j = cs.length := by omega
      have hnx : ∀ ty, (Instr.next (.pointer (some ⟨w.heap.size + 1, 0, none⟩)) true ty).run Tryz.prog wr = _ := fun ty => end_T wr (w.heap.size + 1) cs j hit hje ty
      have HJ := Lib.hid hje
      clear hje
      go_wp2_with (go_at_call 127; refine (Tryz.Builder_String_any_k w.heap.size w.heap.size (enc (foldL (cs.take j))) _ hI (by omega)).mono ?_; rintro e W1 ⟨rfl, _, b1, _⟩)
      go_ret
      refine ⟨?_, hbw.trans b1⟩
      rw [HJ.out, List.take_length]
      rfl

theorem fold_is (s t : ByteArray) (cs : List Nat) (h : OKs cs) (hs : s = T cs) (hz : cs.length ≤ 1000000) (ht : T (foldL cs) = t) (w : World) (hE : Acc w) :
    Calls Tryz.prog 128 #[.string s] w fun e w' => e = .returned (.string t) ∧ Below w.heap.size w w' := by
  have := fold_any cs h s hs hz w hE
  rwa [ht] at this
end

section
open Go.RowKit
set_option maxHeartbeats 1000000 in
theorem letter_any (c : Nat) (hc : c ≤ 1114111) (b : Bool) (hb : letterc c = b) (w : World) :
    Calls Tryz.prog 129 #[.int .i32 (c : Int)] w fun e w' => e = .returned (.bool b) ∧ w = w' := by
  have H := Lib.hid hb
  clear hb
  by_cases h6 : 256 ≤ c
  · obtain rfl : b = true := by have := H.out; rw [← this]; simp [letterc, h6]
    have d1 : decide ((97 : Int) ≤ (c : Int)) = true := by simp; omega
    have d2 : decide ((c : Int) ≤ 122) = false := by simp; omega
    have d3 : decide ((48 : Int) ≤ (c : Int)) = true := by simp; omega
    have d4 : decide ((c : Int) ≤ 57) = false := by simp; omega
    have d5 : decide ((256 : Int) ≤ (c : Int)) = true := by simp; omega
    clear H h6
    go_enter Tryz.func129, Tryz.ntmps129
    go_wp2
    go_ret
    exact ⟨rfl, rfl⟩
  · have d5 : decide ((256 : Int) ≤ (c : Int)) = false := by simp; omega
    by_cases h1 : 97 ≤ c
    · have d1 : decide ((97 : Int) ≤ (c : Int)) = true := by simp; omega
      by_cases h2 : c ≤ 122
      · obtain rfl : b = true := by have := H.out; rw [← this]; simp [letterc, h1, h2]
        have d2 : decide ((c : Int) ≤ 122) = true := by simp; omega
        clear H h1 h2 h6
        go_enter Tryz.func129, Tryz.ntmps129
        go_wp2
        go_ret
        exact ⟨rfl, rfl⟩
      · obtain rfl : b = false := by have := H.out; rw [← this]; simp [letterc, h2]; omega
        have d2 : decide ((c : Int) ≤ 122) = false := by simp; omega
        have d3 : decide ((48 : Int) ≤ (c : Int)) = true := by simp; omega
        have d4 : decide ((c : Int) ≤ 57) = false := by simp; omega
        clear H h1 h2 h6
        go_enter Tryz.func129, Tryz.ntmps129
        go_wp2
        go_ret
        exact ⟨rfl, rfl⟩
    · have d1 : decide ((97 : Int) ≤ (c : Int)) = false := by simp; omega
      by_cases h3 : 48 ≤ c
      · have d3 : decide ((48 : Int) ≤ (c : Int)) = true := by simp; omega
        by_cases h4 : c ≤ 57
        · obtain rfl : b = true := by have := H.out; rw [← this]; simp [letterc, h3, h4]
          have d4 : decide ((c : Int) ≤ 57) = true := by simp; omega
          clear H h1 h3 h4 h6
          go_enter Tryz.func129, Tryz.ntmps129
          go_wp2
          go_ret
          exact ⟨rfl, rfl⟩
        · obtain rfl : b = false := by have := H.out; rw [← this]; simp [letterc, h4]; omega
          have d4 : decide ((c : Int) ≤ 57) = false := by simp; omega
          clear H h1 h3 h4 h6
          go_enter Tryz.func129, Tryz.ntmps129
          go_wp2
          go_ret
          exact ⟨rfl, rfl⟩
      · obtain rfl : b = false := by have := H.out; rw [← this]; simp [letterc]; omega
        have d3 : decide ((48 : Int) ≤ (c : Int)) = false := by simp; omega
        clear H h1 h3 h6
        go_enter Tryz.func129, Tryz.ntmps129
        go_wp2
        go_ret
        exact ⟨rfl, rfl⟩
end

section
open Go.RowKit
/-- What the loop of Words has at place j. -/
def WAt (fs : List Nat) (j : Nat) (K : Nat) (v st ins : Value) (w : World) : Prop :=
  ∃ k : Nat, Strs (K + 1) v (wst (fs.take j)).1 w ∧ st = .int .i64 (off fs k) ∧ ins = .bool (!(wst (fs.take j)).2.isEmpty) ∧ k ≤ j ∧ ((wst (fs.take j)).2 ≠ [] → (wst (fs.take j)).2 = (fs.take j).drop k)

theorem wst_len (fs : List Nat) : (wst fs).1.length ≤ fs.length := by
  have h1 := wst_total fs
  have h2 := len_total (wst fs).1
  omega

theorem take_snoc' (fs : List Nat) (j k : Nat) (hj : j < fs.length) (hk : k ≤ j) : (fs.take (j + 1)).drop k = (fs.take j).drop k ++ [fs[j]] := by
  rw [List.take_succ_eq_append_getElem hj, List.drop_append_of_le_length (by rw [List.length_take]; omega)]

set_option maxHeartbeats 8000000 in
set_option maxRecDepth 100000 in
theorem words_any (cs : List Nat) (h : OKs cs) (s : ByteArray) (hs : s = T cs) (hz : cs.length ≤ 1000000) (w : World) (hE : Acc w) :
    Calls Tryz.prog 82 #[.string s] w fun e w' => ∃ v, e = .returned v ∧ Strs w.heap.size v (W cs) w' ∧ Below w.heap.size w w' := by
  have cF := fold_any cs h s hs hz w hE
  clear hs hE
  have hF := fold_OK cs h
  have hfl := fold_len cs
  have eW : W cs = (flush (wst (foldL cs))).1 := rfl
  rw [eW]
  clear eW
  generalize foldL cs = fs at cF hF hfl
  obtain ⟨i0, hi, hz0, hz1, hz2⟩ := info_parts infoStr
  go_enter Tryz.func82, Tryz.ntmps82
  go_wp2_with (go_at_call 128; refine cF.mono ?_; rintro e w1 ⟨rfl, hb⟩)
  clear cF
  have hB1 := hb.size
  obtain ⟨K, hK⟩ : ∃ K, w1.heap.size = K := ⟨_, rfl⟩
  have HK := Lib.hid hK
  have hB2 : w.heap.size ≤ K := by omega
  clear hK
  go_loopw [4, 5, 6] (fun v st ins wr => ∃ j : Nat, j ≤ fs.length ∧ WAt fs j w1.heap.size v st ins wr ∧ wr.heap[w1.heap.size]? = some (.stringIter (T fs) (off fs j)) ∧ Below w.heap.size w wr) (fun _ _ _ wr => (T fs).size - wr.iterPos w1.heap.size)
  case atStart =>
    refine ⟨0, Nat.zero_le _, ⟨0, World.ownsRow_nil _ _ _ _, by rw [off_zero]; rfl, rfl, Nat.le_refl _, fun h => absurd rfl h⟩, ?_, hb.alloc hB1 _⟩
    rw [off_zero]
    exact World.iter_heap w1 (T fs) 0
  case round =>
    obtain ⟨j, hj, ⟨k, hown, rfl, rfl, hkj, hcur⟩, hit, hbw⟩ := hrel
    have hsz : w1.heap.size < wr.heap.size := (Array.getElem?_eq_some_iff.1 hit).1
    have hwl := wst_len (fs.take j)
    have hl3 : (fs.take j).length ≤ j := List.length_take_le _ _
    by_cases hlt : j < fs.length
    · have hnx : ∀ ty, (Instr.next (.pointer (some ⟨w1.heap.size, 0, none⟩)) true ty).run Tryz.prog wr = _ := fun ty => next_T wr w1.heap.size fs hF j hit hlt ty
      have hit2 := Lib.iterAt_heap wr w1.heap.size (T fs) (off fs j) (off fs (j + 1)) hit
      have hbw2 := Lib.below_iterAt hbw (k := w1.heap.size) (by omega) (T fs) (off fs (j + 1))
      have hown2 := ownsRow_iterAt hown (Nat.lt_succ_self w1.heap.size) (T fs) (off fs (j + 1))
      have hsz2 : w1.heap.size < (wr.iterAt w1.heap.size (T fs) (off fs (j + 1))).heap.size := by rw [Lib.iterAt_size]; exact hsz
      have HM := Lib.hid (pos_T _ _ _ _ hit)
      have hol := off_lt fs j hlt
      have hoj := off_inj fs j (j + 1) (by omega) (by omega)
      have hok := okc_le (OKs_get hF hlt)
      have HS := Lib.hid (wst_take fs j hlt)
      have HT := Lib.hid (take_snoc' fs j k hlt hkj)
      have HT2 := Lib.hid (take_snoc' fs j j hlt (Nat.le_refl _))
      have hmk := off_mono fs k j hkj
      have hole := off_le fs j
      have hex := extract_T fs k j
      clear hown
      generalize wr.iterAt w1.heap.size (T fs) (off fs (j + 1)) = W1 at hnx hit2 hbw2 hown2 hsz2
      obtain ⟨ws, cur, hst⟩ : ∃ ws cur, wst (fs.take j) = (ws, cur) := ⟨_, _, rfl⟩
      rw [hst] at hown2 hcur HS hwl
      rw [hst]
      clear hst
      simp only at hown2 hcur hwl
      cases hb2 : letterc fs[j]
      · have HB := Lib.hid hb2
        clear hb2
        have eS : wstep (ws, cur) fs[j] = flush (ws, cur) := by unfold wstep; rw [HB.out]; rfl
        by_cases hne : cur = []
        · subst hne
          have HS2 : RowKit.Hid (wst (fs.take (j + 1)) = (ws, [])) := by
            unfold RowKit.Hid
            rw [HS.out, eS]; rfl
          clear eS HS hcur hex
          go_wp2_with (go_at_call 129; refine (letter_any _ (by omega) false HB.out _).mono ?_; rintro e w' ⟨rfl, rfl⟩)
          go_roundw
          case rel =>
            refine ⟨j + 1, by omega, ⟨k, ?_, rfl, ?_, by omega, ?_⟩, hit2, hbw2⟩
            · rw [HS2.out]; exact hown2
            · rw [HS2.out]; rfl
            · rw [HS2.out]; exact fun h => absurd rfl h
          case measure => rw [HM.out, pos_T _ _ _ _ hit2]; omega
        · have HS2 : RowKit.Hid (wst (fs.take (j + 1)) = (ws ++ [cur], [])) := by
            unfold RowKit.Hid
            rw [HS.out, eS]; unfold flush; rw [if_neg hne]
          have HC := Lib.hid (hcur hne)
          have HX := Lib.hid hex
          have hin : cur.isEmpty = false := by cases cur with | nil => exact absurd rfl hne | cons _ _ => rfl
          clear eS HS hcur hex
          go_wp2_with (first | (go_at_call 129; refine (letter_any _ (by omega) false HB.out _).mono ?_; rintro e w' ⟨rfl, rfl⟩) | (at_builtin; refine wpList_append_own _ rfl _ _ 36 rfl (w1.heap.size + 1) 9 i0 (.string ⟨#[]⟩) 1 16 Tryz.underlying36 hi hz0 hz1 hz2 rfl (by decide) _ _ _ rfl (hown2.alloc _) ⟨W1.heap.size, 0, none⟩ 1 1 [.string ((T fs).extract (off fs k) (off fs j))] rfl rfl ?c1 ?c2 ?c3 ?c4 ?c5 ?_))
          case c1 =>
            intro i u hi'
            match i, hi' with
            | 0, hi' => simp at hi'; subst hi'; simp [Addr.add]
          case c2 => intro u hu; simp at hu; subst hu; rfl
          case c3 => unfold maxLen; omega
          case c4 => omega
          case c5 => simp; omega
          intro v' w2 hown' hgrow _
          have hit3 : w2.heap[w1.heap.size]? = some (.stringIter (T fs) (off fs (j + 1))) := by
            rw [hgrow.block w1.heap.size (by simp; omega) (fun e => by have := (hown2.lt _ e.symm).1; omega), Lib.alloc_old W1 _ _ hsz2]
            exact hit2
          have hbw3 := (hbw2.alloc (by omega) (.cells #[.string ((T fs).extract (off fs k) (off fs j))] 9)).grown hgrow (by simp; omega) (fun k' hk' => by have := (hown2.lt _ hk').1; omega)
          go_wp2
          go_roundw
          case rel =>
            refine ⟨j + 1, by omega, ⟨k, ?_, rfl, ?_, by omega, ?_⟩, hit3, hbw3⟩
            · rw [HS2.out]
              rw [HX.out, ← HC.out] at hown'
              have e1 : (ws ++ [cur]).length = ws.length + 1 := by simp
              have e2 : (ws ++ [cur]).map strV = ws.map strV ++ [.string (T cur)] := by simp [strV]
              show w2.ownsRow _ _ _ _ (ws ++ [cur]).length ((ws ++ [cur]).map strV)
              rw [e1, e2]
              exact hown'
            · rw [HS2.out]; rfl
            · rw [HS2.out]; exact fun h => absurd rfl h
          case measure => rw [HM.out, pos_T _ _ _ _ hit3]; omega
      · have HB := Lib.hid hb2
        clear hb2
        have HS2 : RowKit.Hid (wst (fs.take (j + 1)) = (ws, cur ++ [fs[j]])) := by
          unfold RowKit.Hid
          rw [HS.out]; unfold wstep; rw [HB.out]; rfl
        clear HS hex
        by_cases hne : cur = []
        · subst hne
          clear hcur
          go_wp2_with (go_at_call 129; refine (letter_any _ (by omega) true HB.out _).mono ?_; rintro e w' ⟨rfl, rfl⟩)
          go_roundw
          case rel =>
            refine ⟨j + 1, by omega, ⟨j, ?_, rfl, ?_, by omega, ?_⟩, hit2, hbw2⟩
            · rw [HS2.out]; exact hown2
            · rw [HS2.out]; rfl
            · rw [HS2.out, HT2.out, List.drop_eq_nil_of_le (by rw [List.length_take]; omega)]; exact fun _ => rfl
          case measure => rw [HM.out, pos_T _ _ _ _ hit2]; omega
        · have HC := Lib.hid (hcur hne)
          have hin : cur.isEmpty = false := by cases cur with | nil => exact absurd rfl hne | cons _ _ => rfl
          clear hcur
          go_wp2_with (go_at_call 129; refine (letter_any _ (by omega) true HB.out _).mono ?_; rintro e w' ⟨rfl, rfl⟩)
          go_roundw
          case rel =>
            refine ⟨j + 1, by omega, ⟨k, ?_, rfl, ?_, by omega, ?_⟩, hit2, hbw2⟩
            · rw [HS2.out]; exact hown2
            · rw [HS2.out]; simp
            · rw [HS2.out, HT.out, ← HC.out]; exact fun _ => rfl
          case measure => rw [HM.out, pos_T _ _ _ _ hit2]; omega
    · have hje : j = fs.length := by omega
      have hnx : ∀ ty, (Instr.next (.pointer (some ⟨w1.heap.size, 0, none⟩)) true ty).run Tryz.prog wr = _ := fun ty => end_T wr w1.heap.size fs j hit hje ty
      have hex := extract_T fs k fs.length
      rw [T_off, List.take_length] at hex
      have hole := off_le fs k
      have htl : fs.take j = fs := by rw [hje, List.take_length]
      rw [htl] at hown hcur hwl
      rw [htl]
      clear htl hje
      obtain ⟨ws, cur, hst⟩ : ∃ ws cur, wst fs = (ws, cur) := ⟨_, _, rfl⟩
      rw [hst] at hown hcur hwl
      rw [hst]
      have HST := Lib.hid hst
      clear hst
      simp only at hown hcur hwl
      have weak : ∀ (w' : World) (v : Value) (n : Nat) (xs : List Value), w'.ownsRow (w1.heap.size + 1) 9 1 v n xs → w'.ownsRow w.heap.size 9 1 v n xs := by
        intro w' v n xs hh
        refine ⟨hh.1, ?_⟩
        rcases hh.2 with hn | ⟨g, cap, cu, hv, hb, hg, rest⟩
        · exact .inl hn
        · exact .inr ⟨g, cap, cu, hv, by omega, hg, rest⟩
      have HW := Lib.hid weak
      clear weak
      by_cases hne : cur = []
      · subst hne
        clear hcur hex
        go_wp2
        go_ret
        refine ⟨_, rfl, ?_, hbw⟩
        rw [HST.out]
        exact HW.out _ _ _ _ hown
      · have HC := Lib.hid (hcur hne)
        have HX := Lib.hid hex
        have HNE := Lib.hid hne
        have hin : cur.isEmpty = false := by cases cur with | nil => exact absurd rfl hne | cons _ _ => rfl
        rw [show (!cur.isEmpty) = true by rw [hin]; rfl]
        clear hcur hex hne hin
        go_wp2_with (at_builtin; refine wpList_append_own _ rfl _ _ 36 rfl (w1.heap.size + 1) 9 i0 (.string ⟨#[]⟩) 1 16 Tryz.underlying36 hi hz0 hz1 hz2 rfl (by decide) _ _ _ rfl (hown.alloc _) ⟨wr.heap.size, 0, none⟩ 1 1 [.string ((T fs).extract (off fs k) (T fs).size)] rfl rfl ?c1 ?c2 ?c3 ?c4 ?c5 ?_)
        case c1 =>
          intro i u hi'
          match i, hi' with
          | 0, hi' => simp at hi'; subst hi'; simp [Addr.add]
        case c2 => intro u hu; simp at hu; subst hu; rfl
        case c3 => unfold maxLen; omega
        case c4 => omega
        case c5 => simp; omega
        intro v' w2 hown' hgrow _
        have hbw3 := (hbw.alloc (by omega) (.cells #[.string ((T fs).extract (off fs k) (T fs).size)] 9)).grown hgrow (by simp; omega) (fun k' hk' => by have := (hown.lt _ hk').1; omega)
        go_wp2
        go_ret
        refine ⟨_, rfl, ?_, hbw3⟩
        have eF : (flush (ws, cur)).1 = ws ++ [cur] := by unfold flush; rw [if_neg HNE.out]
        rw [HST.out, eF]
        rw [HX.out, ← HC.out] at hown'
        have e1 : (ws ++ [cur]).length = ws.length + 1 := by simp
        have e2 : (ws ++ [cur]).map strV = ws.map strV ++ [.string (T cur)] := by simp [strV]
        show w2.ownsRow _ _ _ _ (ws ++ [cur]).length ((ws ++ [cur]).map strV)
        rw [e1, e2]
        exact HW.out _ _ _ _ hown'
end

section
theorem spl_index (sep : List UInt8) (h0 : sep ≠ []) : ∀ s : List UInt8, (Lib.index s sep = -1 → splG sep s = [s]) ∧ ∀ i : Nat, Lib.index s sep = (i : Int) → splG sep s = s.take i :: splG sep (s.drop (i + sep.length))
  | [] => by
    have he : sep.isEmpty = false := by cases sep <;> simp_all
    refine ⟨fun _ => spl_nil sep, fun i h => ?_⟩
    rw [Lib.index, he] at h
    (simp at h <;> omega)
  | c :: t => by
    by_cases hp : sep.isPrefixOf (c :: t) = true
    · refine ⟨fun h => ?_, fun i h => ?_⟩
      · rw [Lib.index, if_pos hp] at h
        omega
      · rw [Lib.index, if_pos hp] at h
        obtain rfl : i = 0 := by omega
        rw [spl_hit sep _ h0 hp, Nat.zero_add]
        rfl
    · have hp' : sep.isPrefixOf (c :: t) = false := Bool.eq_false_iff.2 hp
      obtain ⟨ih1, ih2⟩ := spl_index sep h0 t
      rw [spl_miss sep c t hp']
      by_cases hm : Lib.index t sep = -1
      · refine ⟨fun _ => by rw [ih1 hm]; rfl, fun i h => ?_⟩
        rw [Lib.index, hp', hm] at h
        (simp at h <;> omega)
      · have hge := Lib.index_ge t sep
        obtain ⟨k, hk⟩ : ∃ k : Nat, Lib.index t sep = (k : Int) := ⟨(Lib.index t sep).toNat, by omega⟩
        have hne : ((k : Int) == -1) = false := by rw [beq_eq_false_iff_ne]; omega
        refine ⟨fun h => ?_, fun i h => ?_⟩
        · rw [Lib.index, hp', hk, hne] at h
          (simp at h <;> omega)
        · rw [Lib.index, hp', hk, hne] at h
          obtain rfl : i = k + 1 := by
            (simp at h <;> omega)
          rw [ih2 k hk, show k + 1 + sep.length = (k + sep.length) + 1 by omega]
          rfl
theorem spl_cases (sep : List UInt8) (h0 : sep ≠ []) (s : List UInt8) : ((Lib.index s sep == -1) = true ∧ splG sep s = [s]) ∨ ((Lib.index s sep == -1) = false ∧ 0 ≤ Lib.index s sep ∧ splG sep s = s.take (Lib.index s sep).toNat :: splG sep (s.drop ((Lib.index s sep).toNat + sep.length))) := by
  have hge := Lib.index_ge s sep
  obtain ⟨h1, h2⟩ := spl_index sep h0 s
  by_cases hm : Lib.index s sep = -1
  · exact .inl ⟨beq_iff_eq.2 hm, h1 hm⟩
  · exact .inr ⟨beq_eq_false_iff_ne.2 hm, by omega, h2 _ (by omega)⟩
/-- Cut at the first k instances. -/
theorem splitK_all (sep : List UInt8) (h0 : sep ≠ []) : ∀ (k : Nat) (s : List UInt8), (splG sep s).length ≤ k + 1 → Lib.splitK sep 0 k s = splG sep s
  | 0, s, h => by
    have hne := spl_ne sep s.length s (Nat.le_refl _)
    rcases spl_cases sep h0 s with ⟨_, e⟩ | ⟨_, _, e⟩
    · rw [e]; rfl
    · rw [e] at h
      have := spl_ne sep _ (s.drop ((Lib.index s sep).toNat + sep.length)) (Nat.le_refl _)
      have := List.length_pos_iff.2 this
      simp only [List.length_cons] at h
      omega
  | k + 1, s, h => by
    rw [Lib.splitK]
    rcases spl_cases sep h0 s with ⟨m, e⟩ | ⟨m, _, e⟩
    · rw [if_pos m, e]
    · rw [m]
      rw [if_neg (by decide), e, Nat.add_zero, splitK_all sep h0 k]
      rw [e] at h
      simp only [List.length_cons] at h
      omega
theorem splitK_len (sep : List UInt8) (h0 : sep ≠ []) : ∀ (k : Nat) (s : List UInt8), k + 1 < (splG sep s).length → (Lib.splitK sep 0 k s).length = k + 1
  | 0, s, _ => rfl
  | k + 1, s, h => by
    rw [Lib.splitK]
    rcases spl_cases sep h0 s with ⟨m, e⟩ | ⟨m, _, e⟩
    · rw [e] at h
      simp at h
    · rw [m]
      rw [e] at h
      simp only [List.length_cons] at h
      rw [if_neg (by decide), List.length_cons, splitK_len sep h0 k _ (by omega)]
theorem countFrom_spl (sep : List UInt8) (h0 : sep ≠ []) : ∀ (n : Nat) (s : List UInt8), s.length < n → (splG sep s).length = Lib.countFrom sep n s + 1
  | 0, s, h => by omega
  | n + 1, s, h => by
    rw [Lib.countFrom]
    rcases spl_cases sep h0 s with ⟨m, e⟩ | ⟨m, hi, e⟩
    · rw [if_pos m, e]; rfl
    · have hr := Lib.index_room s sep hi
      have hl := List.length_pos_iff.2 h0
      rw [m, if_neg (by decide), e, List.length_cons, countFrom_spl sep h0 n _ (by rw [List.length_drop]; omega)]
      omega
/-- What strings.Split returns. -/
theorem split_spl (sep : List UInt8) (h0 : sep ≠ []) (s : List UInt8) : Lib.split s sep = splG sep s := by
  unfold Lib.split
  refine splitK_all sep h0 _ s ?_
  rw [countFrom_spl sep h0 (s.length + 1) s (by omega)]
  exact Nat.le_refl _
/-- What strings.SplitN returns. -/
theorem splitN_spl (sep : List UInt8) (h0 : sep ≠ []) (s : List UInt8) (n : Nat) (hn : 1 ≤ n) (hs : (splG sep s).length ≤ s.length + 1) :
    ((splG sep s).length ≤ n → Lib.splitN s sep n = splG sep s) ∧ (n < (splG sep s).length → (Lib.splitN s sep n).length = n) := by
  unfold Lib.splitN
  refine ⟨fun h => splitK_all sep h0 _ s (by omega), fun h => ?_⟩
  rw [show min n (s.length + 1) - 1 = n - 1 by omega, splitK_len sep h0 (n - 1) s (by omega)]
  omega
theorem contains_spl (sep : List UInt8) (h0 : sep ≠ []) (s : List UInt8) : Lib.contains s sep = !decide ((splG sep s).length ≤ 1) := by
  unfold Lib.contains
  rcases spl_cases sep h0 s with ⟨m, e⟩ | ⟨m, hi, e⟩
  · have := beq_iff_eq.1 m
    rw [e, this]; simp
  · have hne := List.length_pos_iff.2 (spl_ne sep _ (s.drop ((Lib.index s sep).toNat + sep.length)) (Nat.le_refl _))
    rw [decide_eq_true hi, e, decide_eq_false (by rw [List.length_cons]; omega)]
    rfl
theorem join_glu (sep : List UInt8) (L : List (List UInt8)) : Lib.join L sep = gluX sep L := by
  unfold Lib.join
  induction L with
  | nil => rfl
  | cons x t ih =>
    cases t with
    | nil => simp [gluX, List.intercalate]
    | cons y t =>
      rw [glu_cons sep x (y :: t) (by simp), ← ih]
      simp [List.intercalate, List.intersperse, List.append_assoc]
theorem prefix_one (c : UInt8) (h : c ≠ 0) (s : List UInt8) : Lib.hasPrefix s [c] = decide (s.getD 0 0 = c) := by
  unfold Lib.hasPrefix
  cases s with
  | nil => simp [Ne.symm h]
  | cons d t =>
    simp only [List.isPrefixOf, List.getD_cons_zero, Bool.and_true]
    by_cases e : c = d
    · subst e; simp
    · simp [e, Ne.symm e]
theorem suffix_one (c : UInt8) (h : c ≠ 0) (s : List UInt8) : Lib.hasSuffix s [c] = decide (s.getD (s.length - 1) 0 = c) := by
  unfold Lib.hasSuffix
  rcases List.eq_nil_or_concat s with rfl | ⟨t, d, rfl⟩
  · simp [List.isSuffixOf, Ne.symm h]
  · rw [List.concat_eq_append]
    have e2 : (t ++ [d]).getD ((t ++ [d]).length - 1) 0 = d := by simp [List.getD_eq_getElem?_getD]
    rw [e2]
    by_cases e : d = c
    · subst e
      rw [decide_eq_true rfl, List.isSuffixOf_iff_suffix]
      exact ⟨t, rfl⟩
    · rw [decide_eq_false e, Bool.eq_false_iff]
      intro g
      obtain ⟨r, hr⟩ := List.isSuffixOf_iff_suffix.1 g
      have := (List.append_inj' hr rfl).2
      simp at this
      exact e this.symm
/-! Dates. -/
def yearX (l : List UInt8) : Bool := decide (l.length = 4) && l.all digc
theorem index_one (c : UInt8) : ∀ l : List UInt8, (Lib.index l [c] = -1 → ∀ x ∈ l, x ≠ c) ∧ ∀ i : Nat, Lib.index l [c] = (i : Int) → ∃ a b, l = a ++ c :: b ∧ a.length = i ∧ ∀ x ∈ a, x ≠ c
  | [] => ⟨fun _ x hx => (by cases hx), fun i h => by
      rw [show Lib.index [] [c] = -1 from rfl] at h
      omega⟩
  | d :: t => by
    obtain ⟨ih1, ih2⟩ := index_one c t
    by_cases e : c = d
    · subst e
      have hp : [c].isPrefixOf (c :: t) = true := by simp [List.isPrefixOf]
      rw [Lib.index, if_pos hp]
      refine ⟨fun h => by omega, fun i h => ⟨[], t, rfl, ?_, fun x hx => by cases hx⟩⟩
      show 0 = i
      omega
    · have hp : [c].isPrefixOf (d :: t) = false := by simp [List.isPrefixOf, e]
      rw [Lib.index, hp]
      have hge := Lib.index_ge t [c]
      by_cases hm : Lib.index t [c] = -1
      · rw [hm]
        refine ⟨fun _ x hx => ?_, fun i h => (by simp at h <;> omega)⟩
        rcases List.mem_cons.1 hx with rfl | hx
        · exact Ne.symm e
        · exact ih1 hm x hx
      · obtain ⟨k, hk⟩ : ∃ k : Nat, Lib.index t [c] = (k : Int) := ⟨(Lib.index t [c]).toNat, by omega⟩
        have hne : ((k : Int) == -1) = false := by rw [beq_eq_false_iff_ne]; omega
        rw [hk, hne]
        refine ⟨fun h => (by simp at h <;> omega), fun i h => ?_⟩
        obtain ⟨a, b, rfl, ha, hx⟩ := ih2 k hk
        refine ⟨d :: a, b, rfl, by simp at h; rw [List.length_cons]; omega, fun x hx2 => ?_⟩
        rcases List.mem_cons.1 hx2 with rfl | hx2
        · exact Ne.symm e
        · exact hx x hx2
theorem cut_data (c : UInt8) (l a b : List UInt8) (t : Bool) (h : Lib.cut l [c] = (a, b, t)) : (t = true ∧ l = a ++ c :: b ∧ ∀ x ∈ a, x ≠ c) ∨ (t = false ∧ ∀ x ∈ l, x ≠ c) := by
  have hge := Lib.index_ge l [c]
  obtain ⟨h1, h2⟩ := index_one c l
  unfold Lib.cut at h
  by_cases hm : Lib.index l [c] = -1
  · rw [hm, if_neg (by omega)] at h
    obtain ⟨-, h⟩ := Prod.mk.inj h
    obtain ⟨-, rfl⟩ := Prod.mk.inj h
    exact .inr ⟨rfl, h1 hm⟩
  · obtain ⟨k, hk⟩ : ∃ k : Nat, Lib.index l [c] = (k : Int) := ⟨(Lib.index l [c]).toNat, by omega⟩
    obtain ⟨x, y, rfl, hl, hx⟩ := h2 k hk
    rw [hk, if_pos (by omega)] at h
    obtain ⟨ha, h⟩ := Prod.mk.inj h
    obtain ⟨hb, rfl⟩ := Prod.mk.inj h
    rw [Int.toNat_natCast, ← hl] at ha hb
    rw [List.take_left] at ha
    subst ha
    have e : x ++ c :: y = (x ++ [c]) ++ y := by simp
    rw [e, show x.length + [c].length = (x ++ [c]).length by simp, List.drop_left] at hb
    subst hb
    exact .inl ⟨rfl, rfl, hx⟩
theorem getD_mid (a b : List UInt8) (c : UInt8) (i : Nat) : (a ++ c :: b).getD i 0 = if i < a.length then a.getD i 0 else if i = a.length then c else b.getD (i - a.length - 1) 0 := by
  by_cases h : i < a.length
  · rw [if_pos h, List.getD_eq_getElem?_getD, List.getElem?_append_left h, ← List.getD_eq_getElem?_getD]
  · rw [if_neg h, List.getD_eq_getElem?_getD, List.getElem?_append_right (by omega), ← List.getD_eq_getElem?_getD]
    by_cases e : i = a.length
    · rw [if_pos e, e, Nat.sub_self]; rfl
    · rw [if_neg e]
      obtain ⟨j, hj⟩ : ∃ j, i - a.length = j + 1 := ⟨i - a.length - 1, by omega⟩
      rw [hj]
      rfl
theorem all_getD (p : UInt8 → Bool) (l : List UInt8) : l.all p = true ↔ ∀ i, i < l.length → p (l.getD i 0) = true := by
  rw [List.all_eq_true]
  constructor
  · intro h i hi
    rw [List.getD_eq_getElem?_getD, List.getElem?_eq_getElem hi]
    exact h _ (List.getElem_mem hi)
  · intro h x hx
    obtain ⟨j, hj, rfl⟩ := List.mem_iff_getElem.1 hx
    have := h j hj
    rwa [List.getD_eq_getElem?_getD, List.getElem?_eq_getElem hj] at this
theorem dates_iff (l : List UInt8) : datesX l = true ↔ (l.length = 5 ∨ l.length = 9) ∧ ∀ i, i < l.length → if i = 4 then l.getD i 0 = 45 else digc (l.getD i 0) = true := by
  unfold datesX
  rw [Bool.and_eq_true, decide_eq_true_iff, List.all_eq_true]
  refine and_congr Iff.rfl ⟨fun h i hi => ?_, fun h i hi => ?_⟩
  · have := h i (List.mem_range.2 hi)
    by_cases e : i = 4
    · rw [if_pos e] at this ⊢
      exact of_decide_eq_true this
    · rw [if_neg e] at this ⊢
      exact this
  · have := h i (List.mem_range.1 hi)
    by_cases e : i = 4
    · rw [if_pos e] at this ⊢
      exact decide_eq_true this
    · rw [if_neg e] at this ⊢
      exact this
theorem dates_cut (l a b : List UInt8) (t : Bool) (h : Lib.cut l [45] = (a, b, t)) : datesX l = (t && (yearX a && (decide (b = []) || yearX b))) := by
  have hd45 : digc 45 = false := by decide
  rcases cut_data 45 l a b t h with ⟨rfl, rfl, hx⟩ | ⟨rfl, hx⟩
  · rw [Bool.true_and, Bool.eq_iff_iff, dates_iff]
    have hL : (a ++ 45 :: b).length = a.length + b.length + 1 := by simp; omega
    rw [hL]
    constructor
    · rintro ⟨hl, hi⟩
      have ha : a.length = 4 := by
        have h1 := hi a.length (by omega)
        rw [getD_mid, if_neg (Nat.lt_irrefl _), if_pos rfl] at h1
        by_cases e : a.length = 4
        · exact e
        · rw [if_neg e, hd45] at h1
          cases h1
      have hya : yearX a = true := by
        unfold yearX
        rw [Bool.and_eq_true, decide_eq_true_iff, all_getD]
        refine ⟨ha, fun i hi2 => ?_⟩
        have h1 := hi i (by omega)
        rw [if_neg (by omega), getD_mid, if_pos hi2] at h1
        exact h1
      rw [hya, Bool.true_and, Bool.or_eq_true, decide_eq_true_iff]
      by_cases hb : b = []
      · exact .inl hb
      · refine .inr ?_
        have := List.length_pos_iff.2 hb
        unfold yearX
        rw [Bool.and_eq_true, decide_eq_true_iff, all_getD]
        refine ⟨by omega, fun i hi2 => ?_⟩
        have h1 := hi (i + 5) (by omega)
        rw [if_neg (by omega), getD_mid, if_neg (by omega), if_neg (by omega), show i + 5 - a.length - 1 = i by omega] at h1
        exact h1
    · intro h
      rw [Bool.and_eq_true, Bool.or_eq_true, decide_eq_true_iff] at h
      obtain ⟨h1, h2⟩ := h
      unfold yearX at h1
      rw [Bool.and_eq_true, decide_eq_true_iff, all_getD] at h1
      have hb : (b = [] ∨ b.length = 4) ∧ ∀ i, i < b.length → digc (b.getD i 0) = true := by
        rcases h2 with rfl | h2
        · exact ⟨.inl rfl, fun i hi => by cases hi⟩
        · unfold yearX at h2
          rw [Bool.and_eq_true, decide_eq_true_iff, all_getD] at h2
          exact ⟨.inr h2.1, h2.2⟩
      have hbl : b.length = 0 ∨ b.length = 4 := by
        rcases hb.1 with rfl | h
        · exact .inl rfl
        · exact .inr h
      refine ⟨by omega, fun i hi => ?_⟩
      rw [getD_mid]
      by_cases e : i = 4
      · rw [if_pos e, if_neg (by omega), if_pos (by omega)]
      · rw [if_neg e]
        by_cases g : i < a.length
        · rw [if_pos g]
          exact h1.2 i g
        · rw [if_neg g, if_neg (by omega)]
          exact hb.2 _ (by omega)
  · rw [Bool.false_and, Bool.eq_false_iff]
    intro hd
    obtain ⟨hl, hi⟩ := (dates_iff l).1 hd
    have h4 := hi 4 (by omega)
    rw [if_pos rfl, List.getD_eq_getElem?_getD, List.getElem?_eq_getElem (show 4 < l.length by omega)] at h4
    exact hx _ (List.getElem_mem _) h4
/-! Names and parts as the program checks them. -/
def cleanB (x : List UInt8) : Bool := validT x && decide (cleanX x = x)
def okP (x : List UInt8) : Bool := !(decide (x = []) || (!cleanB x || !decide ((splG [44] x).length ≤ 1)))
theorem okP_eq (x : List UInt8) : okP x = (validT x && pieceX x) := by
  unfold okP cleanB pieceX
  by_cases h1 : x = [] <;> by_cases h2 : cleanX x = x <;> by_cases h3 : (splG [44] x).length ≤ 1 <;> cases validT x <;> simp [h1, h2, h3]
theorem nameO_prog (s : List UInt8) : nameO s = if (splG cb s).all okP = true then nameL (splG cb s) else none := by
  unfold nameO
  by_cases hv : validT s = true
  · rw [if_neg (by rw [hv]; decide)]
    have e : (splG cb s).all okP = (splG cb s).all pieceX := by
      rw [Bool.eq_iff_iff, List.all_eq_true, List.all_eq_true]
      obtain ⟨cs, hcs, rfl⟩ := validT_text s hv
      refine forall_congr' fun x => forall_congr' fun hx => ?_
      obtain ⟨c1, h1, rfl⟩ := spl_valid cb cb_ascii _ cs (Nat.le_refl _) hcs x hx
      rw [okP_eq, validT_enc c1 h1, Bool.true_and]
    rw [e]
    cases (splG cb s).all pieceX <;> simp
  · rw [if_pos (Bool.eq_false_iff.2 hv)]
    rw [if_neg]
    intro h
    rw [List.all_eq_true] at h
    apply hv
    rw [← glu_spl cb s.length s (Nat.le_refl _)]
    refine glu_valid cb (by decide +kernel) _ fun x hx => ?_
    have := h x hx
    rw [okP_eq, Bool.and_eq_true] at this
    exact this.1
def sepX (x : List UInt8) : Bool := decide ((splG dd x).length ≤ 1) && decide (x.getD 0 0 ≠ 45) && decide (x.getD (x.length - 1) 0 ≠ 45)
theorem plain_prog (x : List UInt8) : plainX x = (cleanB x && sepX x) := by
  unfold plainX cleanB sepX
  simp only [Bool.and_assoc]
theorem partE_prog (x : List UInt8) (h : x ≠ []) : partE x = if (!cleanB x || !sepX x) = true then 3 else 0 := by
  unfold partE
  rw [if_neg h, plain_prog]
  cases cleanB x <;> cases sepX x <;> rfl
end

end Go.Proofs.YtfjfpefpdlecbaaGreatDoor
