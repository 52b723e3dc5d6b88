/- The function Words of package text over texts of at most a million characters: a slice of new memory that holds the words. -/
import Derived.Test.YtfbmjfdfbokfdaaDoorTextC
namespace Go.Proofs.YtfbmjfdfbokfdaaDoor
open Go.RowKit

def strV (x : List Nat) : Value := .string (T x)
/-- A slice of strings in memory from block B on: these words. -/
abbrev Strs (B : Nat) (v : Value) (ws : List (List Nat)) (w : World) : Prop := w.ownsRow B 9 1 v ws.length (ws.map strV)
theorem infoStr : (Tryd.prog.info? 9).map (fun i => (i.zero, i.size, i.bytes)) = some (some (.string ⟨#[]⟩), 1, 16) := by kernel_rfl

/-- What the loop of Words has at place j. -/
def WAt (fs : List Nat) (j : Nat) (K : Nat) (v st ins : Value) (w : World) : Prop :=
  ∃ k : Nat, Strs (K + 1) v (wst (fs.take j)).1 w ∧ st = .int .i64 (off fs k) ∧ ins = .bool (!(wst (fs.take j)).2.isEmpty) ∧ k ≤ j ∧ ((wst (fs.take j)).2 ≠ [] → (wst (fs.take j)).2 = (fs.take j).drop k)

theorem ownsRow_iterAt {w : World} {B e size n : Nat} {v : Value} {xs : List Value} (h : w.ownsRow B e size v n xs) {k : Nat} (hk : k < B) (s : ByteArray) (p : Nat) : (w.iterAt k s p).ownsRow B e size v n xs := by
  refine ⟨h.1, ?_⟩
  rcases h.2 with hn | ⟨g, cap, cur, hv, hb, hg, rest⟩
  · exact .inl hn
  · exact .inr ⟨g, cap, cur, hv, hb, (Lib.iterAt_other w k g s p (by omega)).trans hg, rest⟩
theorem wst_len (fs : List Nat) : (wst fs).1.length ≤ fs.length := by
  have h1 := wst_total fs
  have h2 := len_total (wst fs).1
  omega
theorem take_snoc' (fs : List Nat) (j k : Nat) (hj : j < fs.length) (hk : k ≤ j) : (fs.take (j + 1)).drop k = (fs.take j).drop k ++ [fs[j]] := by
  rw [List.take_succ_eq_append_getElem hj, List.drop_append_of_le_length (by rw [List.length_take]; omega)]

set_option maxHeartbeats 8000000 in
theorem words_any (cs : List Nat) (h : OKs cs) (s : ByteArray) (hs : s = T cs) (hz : cs.length ≤ 1000000) (w : World) (hE : Env w) :
    Calls Tryd.prog 23 #[.string s] w fun e w' => ∃ v, e = .returned v ∧ Strs w.heap.size v (W cs) w' ∧ Below w.heap.size w w' := by
  have cF := fold_any cs h s hs hz w hE
  clear hs hE
  have hF := fold_OK cs h
  have hfl := fold_len cs
  have eW : W cs = (flush (wst (foldL cs))).1 := rfl
  rw [eW]
  clear eW
  generalize foldL cs = fs at cF hF hfl
  obtain ⟨i0, hi, hz0, hz1, hz2⟩ := info_parts infoStr
  go_enter Tryd.func23, Tryd.ntmps23
  go_wp2_with (go_at_call 20; refine cF.mono ?_; rintro e w1 ⟨rfl, hb⟩)
  clear cF
  have hB1 := hb.size
  obtain ⟨K, hK⟩ : ∃ K, w1.heap.size = K := ⟨_, rfl⟩
  have HK := Lib.hid hK
  have hB2 : w.heap.size ≤ K := by omega
  clear hK
  go_loopw [4, 5, 6] (fun v st ins wr => ∃ j : Nat, j ≤ fs.length ∧ WAt fs j w1.heap.size v st ins wr ∧ wr.heap[w1.heap.size]? = some (.stringIter (T fs) (off fs j)) ∧ Below w.heap.size w wr) (fun _ _ _ wr => (T fs).size - wr.iterPos w1.heap.size)
  case atStart =>
    refine ⟨0, Nat.zero_le _, ⟨0, World.ownsRow_nil _ _ _ _, by rw [off_zero]; rfl, rfl, Nat.le_refl _, fun h => absurd rfl h⟩, ?_, hb.alloc hB1 _⟩
    rw [off_zero]
    exact World.iter_heap w1 (T fs) 0
  case round =>
    obtain ⟨j, hj, ⟨k, hown, rfl, rfl, hkj, hcur⟩, hit, hbw⟩ := hrel
    have hsz : w1.heap.size < wr.heap.size := (Array.getElem?_eq_some_iff.1 hit).1
    have hwl := wst_len (fs.take j)
    have hl3 : (fs.take j).length ≤ j := List.length_take_le _ _
    by_cases hlt : j < fs.length
    · have hnx : ∀ ty, (Instr.next (.pointer (some ⟨w1.heap.size, 0, none⟩)) true ty).run Tryd.prog wr = _ := fun ty => next_T wr w1.heap.size fs hF j hit hlt ty
      have hit2 := Lib.iterAt_heap wr w1.heap.size (T fs) (off fs j) (off fs (j + 1)) hit
      have hbw2 := Lib.below_iterAt hbw (k := w1.heap.size) (by omega) (T fs) (off fs (j + 1))
      have hown2 := ownsRow_iterAt hown (Nat.lt_succ_self w1.heap.size) (T fs) (off fs (j + 1))
      have hsz2 : w1.heap.size < (wr.iterAt w1.heap.size (T fs) (off fs (j + 1))).heap.size := by rw [Lib.iterAt_size]; exact hsz
      have HM := Lib.hid (pos_T _ _ _ _ hit)
      have hol := off_lt fs j hlt
      have hoj := off_inj fs j (j + 1) (by omega) (by omega)
      have hok := okc_le (OKs_get hF hlt)
      have HS := Lib.hid (wst_take fs j hlt)
      have HT := Lib.hid (take_snoc' fs j k hlt hkj)
      have HT2 := Lib.hid (take_snoc' fs j j hlt (Nat.le_refl _))
      have hmk := off_mono fs k j hkj
      have hole := off_le fs j
      have hex := extract_T fs k j
      clear hown
      generalize wr.iterAt w1.heap.size (T fs) (off fs (j + 1)) = W1 at hnx hit2 hbw2 hown2 hsz2
      obtain ⟨ws, cur, hst⟩ : ∃ ws cur, wst (fs.take j) = (ws, cur) := ⟨_, _, rfl⟩
      rw [hst] at hown2 hcur HS hwl
      rw [hst]
      clear hst
      simp only at hown2 hcur hwl
      cases hb2 : letterc fs[j]
      · have HB := Lib.hid hb2
        clear hb2
        have eS : wstep (ws, cur) fs[j] = flush (ws, cur) := by unfold wstep; rw [HB.out]; rfl
        by_cases hne : cur = []
        · subst hne
          have HS2 : RowKit.Hid (wst (fs.take (j + 1)) = (ws, [])) := by
            unfold RowKit.Hid
            rw [HS.out, eS]; rfl
          clear eS HS hcur hex
          go_wp2_with (go_at_call 38; refine (letter_any _ (by omega) false HB.out _).mono ?_; rintro e w' ⟨rfl, rfl⟩)
          go_roundw
          case rel =>
            refine ⟨j + 1, by omega, ⟨k, ?_, rfl, ?_, by omega, ?_⟩, hit2, hbw2⟩
            · rw [HS2.out]; exact hown2
            · rw [HS2.out]; rfl
            · rw [HS2.out]; exact fun h => absurd rfl h
          case measure => rw [HM.out, pos_T _ _ _ _ hit2]; omega
        · have HS2 : RowKit.Hid (wst (fs.take (j + 1)) = (ws ++ [cur], [])) := by
            unfold RowKit.Hid
            rw [HS.out, eS]; unfold flush; rw [if_neg hne]
          have HC := Lib.hid (hcur hne)
          have HX := Lib.hid hex
          have hin : cur.isEmpty = false := by cases cur with | nil => exact absurd rfl hne | cons _ _ => rfl
          clear eS HS hcur hex
          go_wp2_with (first | (go_at_call 38; refine (letter_any _ (by omega) false HB.out _).mono ?_; rintro e w' ⟨rfl, rfl⟩) | (at_builtin; refine wpList_append_own _ rfl _ _ 29 rfl (w1.heap.size + 1) 9 i0 (.string ⟨#[]⟩) 1 16 Tryd.underlying29 hi hz0 hz1 hz2 rfl (by decide) _ _ _ rfl (hown2.alloc _) ⟨W1.heap.size, 0, none⟩ 1 1 [.string ((T fs).extract (off fs k) (off fs j))] rfl rfl ?c1 ?c2 ?c3 ?c4 ?c5 ?_))
          case c1 =>
            intro i u hi'
            match i, hi' with
            | 0, hi' => simp at hi'; subst hi'; simp [Addr.add]
          case c2 => intro u hu; simp at hu; subst hu; rfl
          case c3 => unfold maxLen; omega
          case c4 => omega
          case c5 => simp; omega
          intro v' w2 hown' hgrow _
          have hit3 : w2.heap[w1.heap.size]? = some (.stringIter (T fs) (off fs (j + 1))) := by
            rw [hgrow.block w1.heap.size (by simp; omega) (fun e => by have := (hown2.lt _ e.symm).1; omega), Lib.alloc_old W1 _ _ hsz2]
            exact hit2
          have hbw3 := (hbw2.alloc (by omega) (.cells #[.string ((T fs).extract (off fs k) (off fs j))] 9)).grown hgrow (by simp; omega) (fun k' hk' => by have := (hown2.lt _ hk').1; omega)
          go_wp2
          go_roundw
          case rel =>
            refine ⟨j + 1, by omega, ⟨k, ?_, rfl, ?_, by omega, ?_⟩, hit3, hbw3⟩
            · rw [HS2.out]
              rw [HX.out, ← HC.out] at hown'
              have e1 : (ws ++ [cur]).length = ws.length + 1 := by simp
              have e2 : (ws ++ [cur]).map strV = ws.map strV ++ [.string (T cur)] := by simp [strV]
              show w2.ownsRow _ _ _ _ (ws ++ [cur]).length ((ws ++ [cur]).map strV)
              rw [e1, e2]
              exact hown'
            · rw [HS2.out]; rfl
            · rw [HS2.out]; exact fun h => absurd rfl h
          case measure => rw [HM.out, pos_T _ _ _ _ hit3]; omega
      · have HB := Lib.hid hb2
        clear hb2
        have HS2 : RowKit.Hid (wst (fs.take (j + 1)) = (ws, cur ++ [fs[j]])) := by
          unfold RowKit.Hid
          rw [HS.out]; unfold wstep; rw [HB.out]; rfl
        clear HS hex
        by_cases hne : cur = []
        · subst hne
          clear hcur
          go_wp2_with (go_at_call 38; refine (letter_any _ (by omega) true HB.out _).mono ?_; rintro e w' ⟨rfl, rfl⟩)
          go_roundw
          case rel =>
            refine ⟨j + 1, by omega, ⟨j, ?_, rfl, ?_, by omega, ?_⟩, hit2, hbw2⟩
            · rw [HS2.out]; exact hown2
            · rw [HS2.out]; rfl
            · rw [HS2.out, HT2.out, List.drop_eq_nil_of_le (by rw [List.length_take]; omega)]; exact fun _ => rfl
          case measure => rw [HM.out, pos_T _ _ _ _ hit2]; omega
        · have HC := Lib.hid (hcur hne)
          have hin : cur.isEmpty = false := by cases cur with | nil => exact absurd rfl hne | cons _ _ => rfl
          clear hcur
          go_wp2_with (go_at_call 38; refine (letter_any _ (by omega) true HB.out _).mono ?_; rintro e w' ⟨rfl, rfl⟩)
          go_roundw
          case rel =>
            refine ⟨j + 1, by omega, ⟨k, ?_, rfl, ?_, by omega, ?_⟩, hit2, hbw2⟩
            · rw [HS2.out]; exact hown2
            · rw [HS2.out]; simp
            · rw [HS2.out, HT.out, ← HC.out]; exact fun _ => rfl
          case measure => rw [HM.out, pos_T _ _ _ _ hit2]; omega
    · have hje : j = fs.length := by omega
      have hnx : ∀ ty, (Instr.next (.pointer (some ⟨w1.heap.size, 0, none⟩)) true ty).run Tryd.prog wr = _ := fun ty => end_T wr w1.heap.size fs j hit hje ty
      have hex := extract_T fs k fs.length
      rw [T_off, List.take_length] at hex
      have hole := off_le fs k
      have htl : fs.take j = fs := by rw [hje, List.take_length]
      rw [htl] at hown hcur hwl
      rw [htl]
      clear htl hje
      obtain ⟨ws, cur, hst⟩ : ∃ ws cur, wst fs = (ws, cur) := ⟨_, _, rfl⟩
      rw [hst] at hown hcur hwl
      rw [hst]
      have HST := Lib.hid hst
      clear hst
      simp only at hown hcur hwl
      have weak : ∀ (w' : World) (v : Value) (n : Nat) (xs : List Value), w'.ownsRow (w1.heap.size + 1) 9 1 v n xs → w'.ownsRow w.heap.size 9 1 v n xs := by
        intro w' v n xs hh
        refine ⟨hh.1, ?_⟩
        rcases hh.2 with hn | ⟨g, cap, cu, hv, hb, hg, rest⟩
        · exact .inl hn
        · exact .inr ⟨g, cap, cu, hv, by omega, hg, rest⟩
      have HW := Lib.hid weak
      clear weak
      by_cases hne : cur = []
      · subst hne
        clear hcur hex
        go_wp2
        go_ret
        refine ⟨_, rfl, ?_, hbw⟩
        rw [HST.out]
        exact HW.out _ _ _ _ hown
      · have HC := Lib.hid (hcur hne)
        have HX := Lib.hid hex
        have HNE := Lib.hid hne
        have hin : cur.isEmpty = false := by cases cur with | nil => exact absurd rfl hne | cons _ _ => rfl
        rw [show (!cur.isEmpty) = true by rw [hin]; rfl]
        clear hcur hex hne hin
        go_wp2_with (at_builtin; refine wpList_append_own _ rfl _ _ 29 rfl (w1.heap.size + 1) 9 i0 (.string ⟨#[]⟩) 1 16 Tryd.underlying29 hi hz0 hz1 hz2 rfl (by decide) _ _ _ rfl (hown.alloc _) ⟨wr.heap.size, 0, none⟩ 1 1 [.string ((T fs).extract (off fs k) (T fs).size)] rfl rfl ?c1 ?c2 ?c3 ?c4 ?c5 ?_)
        case c1 =>
          intro i u hi'
          match i, hi' with
          | 0, hi' => simp at hi'; subst hi'; simp [Addr.add]
        case c2 => intro u hu; simp at hu; subst hu; rfl
        case c3 => unfold maxLen; omega
        case c4 => omega
        case c5 => simp; omega
        intro v' w2 hown' hgrow _
        have hbw3 := (hbw.alloc (by omega) (.cells #[.string ((T fs).extract (off fs k) (T fs).size)] 9)).grown hgrow (by simp; omega) (fun k' hk' => by have := (hown.lt _ hk').1; omega)
        go_wp2
        go_ret
        refine ⟨_, rfl, ?_, hbw3⟩
        have eF : (flush (ws, cur)).1 = ws ++ [cur] := by unfold flush; rw [if_neg HNE.out]
        rw [HST.out, eF]
        rw [HX.out, ← HC.out] at hown'
        have e1 : (ws ++ [cur]).length = ws.length + 1 := by simp
        have e2 : (ws ++ [cur]).map strV = ws.map strV ++ [.string (T cur)] := by simp [strV]
        show w2.ownsRow _ _ _ _ (ws ++ [cur]).length ((ws ++ [cur]).map strV)
        rw [e1, e2]
        exact HW.out _ _ _ _ hown'
end Go.Proofs.YtfbmjfdfbokfdaaDoor
