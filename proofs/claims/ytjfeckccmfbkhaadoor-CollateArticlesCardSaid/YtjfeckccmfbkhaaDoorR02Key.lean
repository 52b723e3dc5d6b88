/- libraryref02.Key over texts of at most ten thousand characters. -/
import Derived.Test.YtjfeckccmfbkhaaDoorR02Rep
import Derived.Test.YtjfeckccmfbkhaaDoorRFold
namespace Go.Proofs.YtjfeckccmfbkhaaDoor
open Go.RowKit

theorem T_one_le (c : Nat) : (T [c]).size ≤ 4 := by have := T_bound [c]; simpa using this

set_option maxHeartbeats 8000000 in
theorem refKey_any (lang : ByteArray) (cs : List Nat) (h : OKs cs) (s t : ByteArray) (hs : s = T cs) (hz : cs.length ≤ 10000) (ht : T (keyL lang cs) = t) (w : World) :
    Calls Tryd.prog 18 #[.string lang, .string s] w fun e w' => e = .returned (.string t) ∧ Below w.heap.size w w' := by
  subst hs
  have HTT := Lib.hid ht
  clear ht
  have HH := Lib.hid h
  have hrl := repL_len lang cs
  have hRO := repL_OK lang cs h
  have hTR := T_bound (repL lang cs)
  have HF := Lib.hid (fun W => refFoldL_any (repL lang cs) hRO (T (repL lang cs)) (T (foldL (repL lang cs))) rfl (by omega) rfl W)
  have hFO := fold_OK _ hRO
  have hfl := fold_len (repL lang cs)
  have HR := Lib.hid (Eq.refl (keyRun (foldL (repL lang cs))).1)
  have HK : RowKit.Hid (T (keyRun (foldL (repL lang cs))).1 = t) := HTT.out
  clear HR
  generalize foldL (repL lang cs) = fs at HF hFO hfl HK
  have HFO := Lib.hid hFO
  clear h hRO hFO hTR
  have t32 : (⟨#[32]⟩ : ByteArray) = T [32] := by kernel_rfl
  go_enter Tryd.func18, Tryd.ntmps18
  go_wp2
  go_loopw [5] (fun o wr => ∃ j : Nat, j ≤ cs.length ∧ o = .string (T (repL lang (cs.take j))) ∧ wr.heap[w.heap.size]? = some (.stringIter (T cs) (off cs j)) ∧ Below w.heap.size w wr) (fun _ wr => (T cs).size - wr.iterPos w.heap.size)
  case atStart =>
    refine ⟨0, Nat.zero_le _, rfl, ?_, (Below.refl _ w).alloc (Nat.le_refl _) _⟩
    rw [off_zero]
    exact World.iter_heap w (T cs) 0
  case round =>
    obtain ⟨j, hj, rfl, hit, hbw⟩ := hrel
    by_cases hlt : j < cs.length
    · have hnx : ∀ ty, (Instr.next (.pointer (some ⟨w.heap.size, 0, none⟩)) true ty).run Tryd.prog wr = _ := fun ty => next_T wr w.heap.size cs HH.out j hit hlt ty
      have hit2 := Lib.iterAt_heap wr w.heap.size (T cs) (off cs j) (off cs (j + 1)) hit
      have hbw2 := Lib.below_iterAt hbw (k := w.heap.size) (Nat.le_refl _) (T cs) (off cs (j + 1))
      have HM := Lib.hid (And.intro (pos_T _ _ _ _ hit) (pos_T _ _ _ _ hit2))
      have hol := off_lt cs j hlt
      have hoj := off_inj cs j (j + 1) (by omega) (by omega)
      have HOk := Lib.hid (OKs_get HH.out hlt)
      have HS := Lib.hid (repL_take lang cs j hlt)
      have hb1 := T_bound (repL lang (cs.take j))
      have hb2 := repL_len lang (cs.take j)
      have hl3 : (cs.take j).length ≤ j := List.length_take_le _ _
      have hb3 := T_bound (rep lang cs[j])
      have hb4 := rep_len lang cs[j]
      generalize cs[j] = c at hnx HOk HS hb3 hb4
      have s1 : (T (repL lang (cs.take j))).size ≤ 8000000 := by omega
      have s2 : (T (rep lang c)).size ≤ 8 := by omega
      have HA := Lib.hid (T_append (repL lang (cs.take j)) (rep lang c))
      clear hb1 hb2 hb3 hb4
      go_wp2_with fail
      refine (rep_any lang c HOk.out _).mono ?_
      rintro e w' ⟨rfl, rfl⟩
      go_wp2
      go_roundw
      case rel =>
        refine ⟨j + 1, by omega, ?_, hit2, hbw2⟩
        rw [HS.out, HA.out]
      case measure => rw [HM.out.1, HM.out.2]; omega
    · have hje : j = cs.length := by omega
      have hnx : ∀ ty, (Instr.next (.pointer (some ⟨w.heap.size, 0, none⟩)) true ty).run Tryd.prog wr = _ := fun ty => end_T wr w.heap.size cs j hit hje ty
      have htl : cs.take j = cs := by rw [hje, List.take_length]
      rw [htl]
      clear htl hje
      have hsz := hbw.size
      go_wp2_with fail
      refine (HF.out _).mono ?_
      rintro e w2 ⟨rfl, b2⟩
      have hb2 := hbw.trans (b2.mono hsz)
      clear b2 hbw hit hnx hsz
      have hsz2 := hb2.size
      obtain ⟨wo, rfl⟩ : ∃ wo : World, wo = wr := ⟨_, rfl⟩
      go_wp2
      go_loopw [8, 9] (fun o g wr => ∃ j : Nat, j ≤ fs.length ∧ o = .string (T (keyRun (fs.take j)).1) ∧ g = .bool (keyRun (fs.take j)).2 ∧ wr.heap[w2.heap.size]? = some (.stringIter (T fs) (off fs j)) ∧ Below w.heap.size w wr) (fun _ _ wr => (T fs).size - wr.iterPos w2.heap.size)
      case atStart =>
        refine ⟨0, Nat.zero_le _, rfl, rfl, ?_, hb2.alloc hsz2 _⟩
        rw [off_zero]
        exact World.iter_heap w2 (T fs) 0
      case round =>
        obtain ⟨j, hj, rfl, rfl, hit, hbw⟩ := hrel
        by_cases hlt : j < fs.length
        · have hnx : ∀ ty, (Instr.next (.pointer (some ⟨w2.heap.size, 0, none⟩)) true ty).run Tryd.prog wr = _ := fun ty => next_T wr w2.heap.size fs HFO.out j hit hlt ty
          have hit2 := Lib.iterAt_heap wr w2.heap.size (T fs) (off fs j) (off fs (j + 1)) hit
          have hbw2 := Lib.below_iterAt hbw (k := w2.heap.size) hsz2 (T fs) (off fs (j + 1))
          have HM := Lib.hid (And.intro (pos_T _ _ _ _ hit) (pos_T _ _ _ _ hit2))
          have hol := off_lt fs j hlt
          have hoj := off_inj fs j (j + 1) (by omega) (by omega)
          have hOk := OKs_get HFO.out hlt
          have hle := okc_le hOk
          have HE := Lib.hid (encode_ch _ hOk)
          have HS := Lib.hid (keyRun_take fs j hlt)
          have hb1 := T_bound (keyRun (fs.take j)).1
          have hb2' := keyRun_len (fs.take j)
          have hl3 : (fs.take j).length ≤ j := List.length_take_le _ _
          have hb3 := T_one_le fs[j]
          clear hOk
          generalize fs[j] = c at hnx HE HS hb3 hle
          obtain ⟨out, gap, hst⟩ : ∃ out gap, keyRun (fs.take j) = (out, gap) := ⟨_, _, rfl⟩
          rw [hst] at HS hb1 hb2'
          rw [hst]
          clear hst
          simp only at hb1 hb2'
          have s1 : (T out).size ≤ 8000000 := by omega
          have s3 : (T [32]).size ≤ 1 := by decide
          clear hb1 hb2'
          have s4 : (Utf8.encode (c : Int)).size ≤ 4 := by rw [HE.out]; exact hb3
          cases hk : keyc c
          · have HB := Lib.hid hk
            clear hk
            go_wp2_with fail
            refine (keyc_any c false HB.out _).mono ?_
            rintro e w' ⟨rfl, rfl⟩
            go_wp2
            go_roundw
            case rel =>
              refine ⟨j + 1, by omega, ?_, ?_, hit2, hbw2⟩
              · rw [HS.out]; simp [keyStep, HB.out]
              · rw [HS.out]; simp [keyStep, HB.out]
            case measure => rw [HM.out.1, HM.out.2]; omega
          · have HB := Lib.hid hk
            clear hk
            have HE3 := Lib.hid (T_append out [c])
            have HE4 := Lib.hid (T_append out [32])
            have HE5 := Lib.hid (T_append (out ++ [32]) [c])
            cases gap
            · go_wp2_with fail
              refine (keyc_any c true HB.out _).mono ?_
              rintro e w' ⟨rfl, rfl⟩
              go_wp2
              go_roundw
              case rel =>
                refine ⟨j + 1, by omega, ?_, ?_, hit2, hbw2⟩
                · rw [HS.out, HE.out, HE3.out]; simp [keyStep, HB.out]
                · rw [HS.out]; simp [keyStep, HB.out]
              case measure => rw [HM.out.1, HM.out.2]; omega
            · by_cases hne : out = []
              · subst hne
                have e0 : T [] = ⟨#[]⟩ := rfl
                rw [e0]
                rw [e0] at HE3 s1
                clear e0
                go_wp2_with fail
                refine (keyc_any c true HB.out _).mono ?_
                rintro e w' ⟨rfl, rfl⟩
                go_wp2
                go_roundw
                case rel =>
                  refine ⟨j + 1, by omega, ?_, ?_, hit2, hbw2⟩
                  · rw [HS.out, HE.out, HE3.out]; simp [keyStep, HB.out]
                  · rw [HS.out]; simp [keyStep, HB.out]
                case measure => rw [HM.out.1, HM.out.2]; omega
              · obtain ⟨f1, f2⟩ := T_facts _ hne
                have HNE := Lib.hid hne
                clear hne
                rw [t32]
                go_wp2_with fail
                refine (keyc_any c true HB.out _).mono ?_
                rintro e w' ⟨rfl, rfl⟩
                go_wp2
                go_roundw
                case rel =>
                  refine ⟨j + 1, by omega, ?_, ?_, hit2, hbw2⟩
                  · rw [HS.out, HE.out, HE4.out, HE5.out]; simp [keyStep, HB.out, HNE.out]
                  · rw [HS.out]; simp [keyStep, HB.out]
                case measure => rw [HM.out.1, HM.out.2]; omega
        · have hje : j = fs.length := by omega
          have hnx : ∀ ty, (Instr.next (.pointer (some ⟨w2.heap.size, 0, none⟩)) true ty).run Tryd.prog wr = _ := fun ty => end_T wr w2.heap.size fs j hit hje ty
          have htl : fs.take j = fs := by rw [hje, List.take_length]
          rw [htl]
          clear htl hje
          go_wp2
          go_ret
          refine ⟨?_, hbw⟩
          rw [← HK.out]
          rfl
end Go.Proofs.YtjfeckccmfbkhaaDoor
