/- The program's replace: a text whose letters stand as they are sorted in a language; over texts of at most a hundred thousand characters. -/
import Derived.Test.YtjfeckccmfbkhaaDoorCRep
import Derived.Test.YtjfeckccmfbkhaaDoorBuild
import Derived.Test.YtjfeckccmfbkhaaDoorCells
import Derived.Test.YtjfeckccmfbkhaaDoorStrs
namespace Go.Proofs.YtjfeckccmfbkhaaDoor
open Go.RowKit

set_option maxHeartbeats 4000000 in
theorem replace_any (lang : ByteArray) (cs : List Nat) (h : OKs cs) (s : ByteArray) (hs : s = T cs) (hz : cs.length ≤ 100000) (w : World) :
    Calls Tryd.prog 35 #[.string lang, .string s] w fun e w' => e = .returned (.string (T (repL lang cs))) ∧ Below w.heap.size w w' := by
  subst hs
  go_enter Tryd.func35, Tryd.ntmps35
  go_wp2
  go_loopw [] (fun wr => ∃ j : Nat, j ≤ cs.length ∧ IsB w.heap.size w.heap.size (Lib.byteCells (enc (repL lang (cs.take j)))) wr ∧ wr.heap[w.heap.size + 1]? = some (.stringIter (T cs) (off cs j)) ∧ Below w.heap.size w wr) (fun wr => (T cs).size - wr.iterPos (w.heap.size + 1))
  case atStart =>
    refine ⟨0, Nat.zero_le _, (Lib.IsBuilderF.of (Lib.fresh_isBuilder _ _ w)).alloc _, ?_, ((Below.refl _ w).alloc (Nat.le_refl _) _).alloc (by simp) _⟩
    rw [off_zero]
    have := World.iter_heap (w.alloc (.cells #[.pointer none, .slice none 0 0] 65)) (T cs) 0
    simpa using this
  case round =>
    obtain ⟨j, hj, hI, hit, hbw⟩ := hrel
    have hsz : w.heap.size + 1 < wr.heap.size := (Array.getElem?_eq_some_iff.1 hit).1
    have hl0 := repL_len lang (cs.take j)
    have hl3 : (cs.take j).length ≤ j := List.length_take_le _ _
    have hl2 := cells_len (repL lang (cs.take j))
    by_cases hlt : j < cs.length
    · have hnx : ∀ ty, (Instr.next (.pointer (some ⟨w.heap.size + 1, 0, none⟩)) true ty).run Tryd.prog wr = _ := fun ty => next_T wr (w.heap.size + 1) cs h j hit hlt ty
      have hit2 := Lib.iterAt_heap wr (w.heap.size + 1) (T cs) (off cs j) (off cs (j + 1)) hit
      have hbw2 := Lib.below_iterAt hbw (k := w.heap.size + 1) (by omega) (T cs) (off cs (j + 1))
      have hI2 := hI.iterAt hit (off cs (j + 1))
      have hsz2 : w.heap.size ≤ (wr.iterAt (w.heap.size + 1) (T cs) (off cs (j + 1))).heap.size := by rw [Lib.iterAt_size]; omega
      have HM := Lib.hid (pos_T _ _ _ _ hit)
      have hol := off_lt cs j hlt
      have hoj := off_inj cs j (j + 1) (by omega) (by omega)
      have hok := okc_le (OKs_get h hlt)
      have HS := Lib.hid (repL_take lang cs j hlt)
      generalize hc : cs[j] = c at hnx hok HS
      clear hc hI hl0 hl3
      have hlen : (Lib.byteCells (enc (repL lang (List.take j cs)))).length ≤ 800000 := by
        have a1 := repL_len lang (cs.take j)
        have a2 : (cs.take j).length ≤ j := List.length_take_le _ _
        omega
      clear hl2
      cases hm : markc c
      · have cB := Lib.hid (fun W => reserved_any c false hm W)
        have hr := special_rep lang c hm
        have hsl := special_len lang c
        by_cases hsp : special lang c = []
        · rw [if_pos hsp] at hr
          have HR := Lib.hid hr
          have cA0 := fun W => replacement_any lang c W
          rw [hsp, show T [] = ⟨#[]⟩ from rfl] at cA0
          have cA := Lib.hid cA0
          clear cA0 hr hsl hsp hm
          go_wp2_with fail
          refine (cA.out _).mono ?_
          rintro e w1 ⟨rfl, rfl⟩
          go_wp2_with fail
          refine (cB.out _).mono ?_
          rintro e w1 ⟨rfl, rfl⟩
          go_wp2_with (go_at_call 48; refine (writeRune_any w.heap.size w.heap.size _ _ (by omega) (by omega) _ hI2 (by omega) hsz2).mono ?_; rintro e W1 ⟨rfl, h1, b1, k1⟩)
          go_roundw
          case rel =>
            refine ⟨j + 1, by omega, ?_, k1.iter hit2 (by omega), hbw2.trans b1⟩
            rw [HS.out, HR.out, cells_snoc]
            exact Or.inr h1
          case measure =>
            rw [HM.out, pos_T _ _ _ _ (k1.iter hit2 (by omega))]; omega
        · rw [if_neg hsp] at hr
          have HR := Lib.hid hr
          have cA := Lib.hid (fun W => replacement_any lang c W)
          obtain ⟨f1, f2⟩ := T_facts _ hsp
          have hxs := T_bound (special lang c)
          clear hr hm hsp
          generalize special lang c = x at HR cA f1 f2 hsl hxs
          have hxl : (T x).size ≤ 8 := by omega
          clear hxs hsl
          go_wp2_with fail
          refine (cA.out _).mono ?_
          rintro e w1 ⟨rfl, rfl⟩
          go_wp2_with fail
          refine (cB.out _).mono ?_
          rintro e w1 ⟨rfl, rfl⟩
          go_wp2_with (go_at_call 49; refine (writeString_any w.heap.size w.heap.size _ _ _ hI2 (by omega) hsz2).mono ?_; rintro e W1 ⟨rfl, h1, b1, k1⟩)
          go_roundw
          case rel =>
            refine ⟨j + 1, by omega, ?_, k1.iter hit2 (by omega), hbw2.trans b1⟩
            rw [HS.out, HR.out, cells_T]
            exact Or.inr h1
          case measure =>
            rw [HM.out, pos_T _ _ _ _ (k1.iter hit2 (by omega))]; omega
      · have cB := Lib.hid (fun W => reserved_any c true hm W)
        have HR := Lib.hid (mark_rep lang c hm)
        have cA := Lib.hid (fun W => replacement_any lang c W)
        clear hm
        generalize T (special lang c) = x at cA
        go_wp2_with fail
        refine (cA.out _).mono ?_
        rintro e w1 ⟨rfl, rfl⟩
        go_wp2_with fail
        refine (cB.out _).mono ?_
        rintro e w1 ⟨rfl, rfl⟩
        go_wp2_with (go_at_call 59; refine (writeByte_any w.heap.size w.heap.size _ 32 _ hI2 (by omega) hsz2).mono ?_; rintro e W1 ⟨rfl, h1, b1, k1⟩)
        go_roundw
        case rel =>
          refine ⟨j + 1, by omega, ?_, k1.iter hit2 (by omega), hbw2.trans b1⟩
          rw [HS.out, HR.out, cells_32]
          exact Or.inr h1
        case measure =>
          rw [HM.out, pos_T _ _ _ _ (k1.iter hit2 (by omega))]; omega
    · have hje : j = cs.length := by omega
      have hnx : ∀ ty, (Instr.next (.pointer (some ⟨w.heap.size + 1, 0, none⟩)) true ty).run Tryd.prog wr = _ := fun ty => end_T wr (w.heap.size + 1) cs j hit hje ty
      have HJ := Lib.hid hje
      have hlen : (enc (repL lang (cs.take j))).length ≤ 800000 := by
        have a1 := enc_le (repL lang (cs.take j))
        omega
      clear hje hl0 hl2 hl3
      go_wp2_with (go_at_call 50; refine (Tryd.Builder_String_any_k w.heap.size w.heap.size (enc (repL lang (cs.take j))) _ hI (by omega)).mono ?_; rintro e W1 ⟨rfl, _, b1, _⟩)
      go_ret
      refine ⟨?_, hbw.trans b1⟩
      rw [HJ.out, List.take_length]
      rfl
end Go.Proofs.YtjfeckccmfbkhaaDoor
