/- Merged: TLetter, Strs, TWords. -/
import Derived.Test.YtmcolapcmjdoeaaGreatDoorQ06
import Derived.Test.YtmcolapcmjdoeaaGreatDoorQ02
import Derived.Laws.AppendOwn
import Derived.Test.YtmcolapcmjdoeaaGreatDoorQ09
namespace Go.Proofs.YtmcolapcmjdoeaaGreatDoor

section
open Go.RowKit
set_option maxHeartbeats 1000000 in
theorem letter_any (c : Nat) (hc : c ≤ 1114111) (b : Bool) (hb : letterc c = b) (w : World) :
    Calls Tryz.prog 90 #[.int .i32 (c : Int)] w fun e w' => e = .returned (.bool b) ∧ w = w' := by
  have H := Lib.hid hb
  clear hb
  by_cases h6 : 256 ≤ c
  · obtain rfl : b = true := by have := H.out; rw [← this]; simp [letterc, h6]
    have d1 : decide ((97 : Int) ≤ (c : Int)) = true := by simp; omega
    have d2 : decide ((c : Int) ≤ 122) = false := by simp; omega
    have d3 : decide ((48 : Int) ≤ (c : Int)) = true := by simp; omega
    have d4 : decide ((c : Int) ≤ 57) = false := by simp; omega
    have d5 : decide ((256 : Int) ≤ (c : Int)) = true := by simp; omega
    clear H h6
    go_enter Tryz.func90, Tryz.ntmps90
    go_wp2
    go_ret
    exact ⟨rfl, rfl⟩
  · have d5 : decide ((256 : Int) ≤ (c : Int)) = false := by simp; omega
    by_cases h1 : 97 ≤ c
    · have d1 : decide ((97 : Int) ≤ (c : Int)) = true := by simp; omega
      by_cases h2 : c ≤ 122
      · obtain rfl : b = true := by have := H.out; rw [← this]; simp [letterc, h1, h2]
        have d2 : decide ((c : Int) ≤ 122) = true := by simp; omega
        clear H h1 h2 h6
        go_enter Tryz.func90, Tryz.ntmps90
        go_wp2
        go_ret
        exact ⟨rfl, rfl⟩
      · obtain rfl : b = false := by have := H.out; rw [← this]; simp [letterc, h2]; omega
        have d2 : decide ((c : Int) ≤ 122) = false := by simp; omega
        have d3 : decide ((48 : Int) ≤ (c : Int)) = true := by simp; omega
        have d4 : decide ((c : Int) ≤ 57) = false := by simp; omega
        clear H h1 h2 h6
        go_enter Tryz.func90, Tryz.ntmps90
        go_wp2
        go_ret
        exact ⟨rfl, rfl⟩
    · have d1 : decide ((97 : Int) ≤ (c : Int)) = false := by simp; omega
      by_cases h3 : 48 ≤ c
      · have d3 : decide ((48 : Int) ≤ (c : Int)) = true := by simp; omega
        by_cases h4 : c ≤ 57
        · obtain rfl : b = true := by have := H.out; rw [← this]; simp [letterc, h3, h4]
          have d4 : decide ((c : Int) ≤ 57) = true := by simp; omega
          clear H h1 h3 h4 h6
          go_enter Tryz.func90, Tryz.ntmps90
          go_wp2
          go_ret
          exact ⟨rfl, rfl⟩
        · obtain rfl : b = false := by have := H.out; rw [← this]; simp [letterc, h4]; omega
          have d4 : decide ((c : Int) ≤ 57) = false := by simp; omega
          clear H h1 h3 h4 h6
          go_enter Tryz.func90, Tryz.ntmps90
          go_wp2
          go_ret
          exact ⟨rfl, rfl⟩
      · obtain rfl : b = false := by have := H.out; rw [← this]; simp [letterc]; omega
        have d3 : decide ((48 : Int) ≤ (c : Int)) = false := by simp; omega
        clear H h1 h3 h6
        go_enter Tryz.func90, Tryz.ntmps90
        go_wp2
        go_ret
        exact ⟨rfl, rfl⟩
end

section
open Go.RowKit
def strV (x : List Nat) : Value := .string (T x)

/-- A slice of strings in memory from block B on: these words. -/
abbrev Strs (B : Nat) (v : Value) (ws : List (List Nat)) (w : World) : Prop := w.ownsRow B 9 1 v ws.length (ws.map strV)

theorem infoStr : (Tryz.prog.info? 9).map (fun i => (i.zero, i.size, i.bytes)) = some (some (.string ⟨#[]⟩), 1, 16) := by kernel_rfl

theorem ownsRow_iterAt {w : World} {B e size n : Nat} {v : Value} {xs : List Value} (h : w.ownsRow B e size v n xs) {k : Nat} (hk : k < B) (s : ByteArray) (p : Nat) : (w.iterAt k s p).ownsRow B e size v n xs := by
  refine ⟨h.1, ?_⟩
  rcases h.2 with hn | ⟨g, cap, cur, hv, hb, hg, rest⟩
  · exact .inl hn
  · exact .inr ⟨g, cap, cur, hv, hb, (Lib.iterAt_other w k g s p (by omega)).trans hg, rest⟩

/-- A slice of strings, opened. -/
theorem Strs.open {B : Nat} {v : Value} {ws : List (List Nat)} {w : World} (h : Strs B v ws w) (hne : ws ≠ []) :
    ∃ g cap, v = .slice (some ⟨g, 0, none⟩) ws.length cap ∧ B ≤ g ∧ g < w.heap.size ∧ ws.length ≤ cap ∧ cap ≤ maxLen ∧ ∀ i (hi : i < ws.length), w.cell? ⟨g, i, none⟩ = some (.string (T ws[i])) := by
  rcases h.2 with ⟨_, h0⟩ | ⟨g, cap, cur, rfl, hb, hg, hc, hm, hs, ht⟩
  · exact absurd (List.eq_nil_of_length_eq_zero h0) hne
  · refine ⟨g, cap, rfl, hb, (Array.getElem?_eq_some_iff.1 hg).1, hc, hm, fun i hi => ?_⟩
    have := h.cells (g := g) rfl i (.string (T ws[i])) (by simp [strV, hi])
    have hadd : (⟨g, 0, none⟩ : Addr).add i = ⟨g, i, none⟩ := by unfold Addr.add; split <;> simp_all
    rwa [hadd] at this

theorem Strs.form {B : Nat} {v : Value} {ws : List (List Nat)} {w : World} (h : Strs B v ws w) : ∃ ao cap, v = .slice ao ws.length cap := by
  rcases h.2 with ⟨hv, h0⟩ | ⟨g, cap, cur, hv, _⟩
  · exact ⟨none, 0, by rw [hv, h0]⟩
  · exact ⟨_, _, hv⟩

theorem Strs.below {B B' : Nat} {v : Value} {ws : List (List Nat)} {w w' : World} (h : Strs B v ws w) (hb : Below B' w w') (hB : w.heap.size ≤ B') : Strs B v ws w' := by
  refine ⟨h.1, ?_⟩
  rcases h.2 with hn | ⟨g, cap, cur, hv, hB', hg, rest⟩
  · exact .inl hn
  · have hlt : g < w.heap.size := (Array.getElem?_eq_some_iff.1 hg).1
    exact .inr ⟨g, cap, cur, hv, hB', (hb.block g (by omega)).trans hg, rest⟩

theorem Strs.after {B : Nat} {v : Value} {ws : List (List Nat)} {w w' : World} (h : Strs B v ws w) (hb : Below w.heap.size w w') : Strs B v ws w' := h.below hb (Nat.le_refl _)

theorem cut_T (cs : List Nat) (k : Nat) (hk : k < cs.length) : (T cs).extract (off cs k) (off cs (k + 1)) = T [cs[k]] := by
  rw [extract_T]
  congr 1
  rw [List.take_succ_eq_append_getElem hk, List.drop_append_of_le_length (by rw [List.length_take]; omega), List.drop_eq_nil_of_le (by rw [List.length_take]; omega)]
  rfl

theorem T_append (a b : List Nat) : T a ++ T b = T (a ++ b) := by
  apply eq_T
  rw [ByteArray.data_append, Array.toList_append, T_list, T_list, enc_append]

theorem T_bound (a : List Nat) : (T a).size ≤ 4 * a.length := by rw [T_size]; exact enc_le a

theorem T_facts (x : List Nat) (h : x ≠ []) : (T x).toList.isEmpty = false ∧ ¬ (T x).toList = [] := by
  have h1 : 0 < (T x).size := by
    rcases Nat.eq_zero_or_pos (T x).size with h0 | h0
    · exact absurd ((T_size_zero x).1 h0) h
    · exact h0
  have h2 : (T x).toList = enc x := by
    rw [← T_list]
    exact ByteArray.toList_eq _
  have h3 : ¬ enc x = [] := by
    intro h0
    rw [T_size, h0] at h1
    exact absurd h1 (by simp)
  rw [h2]
  refine ⟨?_, h3⟩
  cases he : enc x with
  | nil => exact absurd he h3
  | cons _ _ => rfl
end

section
open Go.RowKit
/-- What the loop of Words has at place j. -/
def WAt (fs : List Nat) (j : Nat) (K : Nat) (v st ins : Value) (w : World) : Prop :=
  ∃ k : Nat, Strs (K + 1) v (wst (fs.take j)).1 w ∧ st = .int .i64 (off fs k) ∧ ins = .bool (!(wst (fs.take j)).2.isEmpty) ∧ k ≤ j ∧ ((wst (fs.take j)).2 ≠ [] → (wst (fs.take j)).2 = (fs.take j).drop k)

theorem wst_len (fs : List Nat) : (wst fs).1.length ≤ fs.length := by
  have h1 := wst_total fs
  have h2 := len_total (wst fs).1
  omega

theorem take_snoc' (fs : List Nat) (j k : Nat) (hj : j < fs.length) (hk : k ≤ j) : (fs.take (j + 1)).drop k = (fs.take j).drop k ++ [fs[j]] := by
  rw [List.take_succ_eq_append_getElem hj, List.drop_append_of_le_length (by rw [List.length_take]; omega)]

set_option maxHeartbeats 8000000 in
set_option maxRecDepth 100000 in
theorem words_any (cs : List Nat) (h : OKs cs) (s : ByteArray) (hs : s = T cs) (hz : cs.length ≤ 1000000) (w : World) (hE : Acc w) :
    Calls Tryz.prog 68 #[.string s] w fun e w' => ∃ v, e = .returned v ∧ Strs w.heap.size v (W cs) w' ∧ Below w.heap.size w w' := by
  have cF := fold_any cs h s hs hz w hE
  clear hs hE
  have hF := fold_OK cs h
  have hfl := fold_len cs
  have eW : W cs = (flush (wst (foldL cs))).1 := rfl
  rw [eW]
  clear eW
  generalize foldL cs = fs at cF hF hfl
  obtain ⟨i0, hi, hz0, hz1, hz2⟩ := info_parts infoStr
  go_enter Tryz.func68, Tryz.ntmps68
  go_wp2_with (go_at_call 89; refine cF.mono ?_; rintro e w1 ⟨rfl, hb⟩)
  clear cF
  have hB1 := hb.size
  obtain ⟨K, hK⟩ : ∃ K, w1.heap.size = K := ⟨_, rfl⟩
  have HK := Lib.hid hK
  have hB2 : w.heap.size ≤ K := by omega
  clear hK
  go_loopw [4, 5, 6] (fun v st ins wr => ∃ j : Nat, j ≤ fs.length ∧ WAt fs j w1.heap.size v st ins wr ∧ wr.heap[w1.heap.size]? = some (.stringIter (T fs) (off fs j)) ∧ Below w.heap.size w wr) (fun _ _ _ wr => (T fs).size - wr.iterPos w1.heap.size)
  case atStart =>
    refine ⟨0, Nat.zero_le _, ⟨0, World.ownsRow_nil _ _ _ _, by rw [off_zero]; rfl, rfl, Nat.le_refl _, fun h => absurd rfl h⟩, ?_, hb.alloc hB1 _⟩
    rw [off_zero]
    exact World.iter_heap w1 (T fs) 0
  case round =>
    obtain ⟨j, hj, ⟨k, hown, rfl, rfl, hkj, hcur⟩, hit, hbw⟩ := hrel
    have hsz : w1.heap.size < wr.heap.size := (Array.getElem?_eq_some_iff.1 hit).1
    have hwl := wst_len (fs.take j)
    have hl3 : (fs.take j).length ≤ j := List.length_take_le _ _
    by_cases hlt : j < fs.length
    · have hnx : ∀ ty, (Instr.next (.pointer (some ⟨w1.heap.size, 0, none⟩)) true ty).run Tryz.prog wr = _ := fun ty => next_T wr w1.heap.size fs hF j hit hlt ty
      have hit2 := Lib.iterAt_heap wr w1.heap.size (T fs) (off fs j) (off fs (j + 1)) hit
      have hbw2 := Lib.below_iterAt hbw (k := w1.heap.size) (by omega) (T fs) (off fs (j + 1))
      have hown2 := ownsRow_iterAt hown (Nat.lt_succ_self w1.heap.size) (T fs) (off fs (j + 1))
      have hsz2 : w1.heap.size < (wr.iterAt w1.heap.size (T fs) (off fs (j + 1))).heap.size := by rw [Lib.iterAt_size]; exact hsz
      have HM := Lib.hid (pos_T _ _ _ _ hit)
      have hol := off_lt fs j hlt
      have hoj := off_inj fs j (j + 1) (by omega) (by omega)
      have hok := okc_le (OKs_get hF hlt)
      have HS := Lib.hid (wst_take fs j hlt)
      have HT := Lib.hid (take_snoc' fs j k hlt hkj)
      have HT2 := Lib.hid (take_snoc' fs j j hlt (Nat.le_refl _))
      have hmk := off_mono fs k j hkj
      have hole := off_le fs j
      have hex := extract_T fs k j
      clear hown
      generalize wr.iterAt w1.heap.size (T fs) (off fs (j + 1)) = W1 at hnx hit2 hbw2 hown2 hsz2
      obtain ⟨ws, cur, hst⟩ : ∃ ws cur, wst (fs.take j) = (ws, cur) := ⟨_, _, rfl⟩
      rw [hst] at hown2 hcur HS hwl
      rw [hst]
      clear hst
      simp only at hown2 hcur hwl
      cases hb2 : letterc fs[j]
      · have HB := Lib.hid hb2
        clear hb2
        have eS : wstep (ws, cur) fs[j] = flush (ws, cur) := by unfold wstep; rw [HB.out]; rfl
        by_cases hne : cur = []
        · subst hne
          have HS2 : RowKit.Hid (wst (fs.take (j + 1)) = (ws, [])) := by
            unfold RowKit.Hid
            rw [HS.out, eS]; rfl
          clear eS HS hcur hex
          go_wp2_with (go_at_call 90; refine (letter_any _ (by omega) false HB.out _).mono ?_; rintro e w' ⟨rfl, rfl⟩)
          go_roundw
          case rel =>
            refine ⟨j + 1, by omega, ⟨k, ?_, rfl, ?_, by omega, ?_⟩, hit2, hbw2⟩
            · rw [HS2.out]; exact hown2
            · rw [HS2.out]; rfl
            · rw [HS2.out]; exact fun h => absurd rfl h
          case measure => rw [HM.out, pos_T _ _ _ _ hit2]; omega
        · have HS2 : RowKit.Hid (wst (fs.take (j + 1)) = (ws ++ [cur], [])) := by
            unfold RowKit.Hid
            rw [HS.out, eS]; unfold flush; rw [if_neg hne]
          have HC := Lib.hid (hcur hne)
          have HX := Lib.hid hex
          have hin : cur.isEmpty = false := by cases cur with | nil => exact absurd rfl hne | cons _ _ => rfl
          clear eS HS hcur hex
          go_wp2_with (first | (go_at_call 90; refine (letter_any _ (by omega) false HB.out _).mono ?_; rintro e w' ⟨rfl, rfl⟩) | (at_builtin; refine wpList_append_own _ rfl _ _ 28 rfl (w1.heap.size + 1) 9 i0 (.string ⟨#[]⟩) 1 16 Tryz.underlying28 hi hz0 hz1 hz2 rfl (by decide) _ _ _ rfl (hown2.alloc _) ⟨W1.heap.size, 0, none⟩ 1 1 [.string ((T fs).extract (off fs k) (off fs j))] rfl rfl ?c1 ?c2 ?c3 ?c4 ?c5 ?_))
          case c1 =>
            intro i u hi'
            match i, hi' with
            | 0, hi' => simp at hi'; subst hi'; simp [Addr.add]
          case c2 => intro u hu; simp at hu; subst hu; rfl
          case c3 => unfold maxLen; omega
          case c4 => omega
          case c5 => simp; omega
          intro v' w2 hown' hgrow _
          have hit3 : w2.heap[w1.heap.size]? = some (.stringIter (T fs) (off fs (j + 1))) := by
            rw [hgrow.block w1.heap.size (by simp; omega) (fun e => by have := (hown2.lt _ e.symm).1; omega), Lib.alloc_old W1 _ _ hsz2]
            exact hit2
          have hbw3 := (hbw2.alloc (by omega) (.cells #[.string ((T fs).extract (off fs k) (off fs j))] 9)).grown hgrow (by simp; omega) (fun k' hk' => by have := (hown2.lt _ hk').1; omega)
          go_wp2
          go_roundw
          case rel =>
            refine ⟨j + 1, by omega, ⟨k, ?_, rfl, ?_, by omega, ?_⟩, hit3, hbw3⟩
            · rw [HS2.out]
              rw [HX.out, ← HC.out] at hown'
              have e1 : (ws ++ [cur]).length = ws.length + 1 := by simp
              have e2 : (ws ++ [cur]).map strV = ws.map strV ++ [.string (T cur)] := by simp [strV]
              show w2.ownsRow _ _ _ _ (ws ++ [cur]).length ((ws ++ [cur]).map strV)
              rw [e1, e2]
              exact hown'
            · rw [HS2.out]; rfl
            · rw [HS2.out]; exact fun h => absurd rfl h
          case measure => rw [HM.out, pos_T _ _ _ _ hit3]; omega
      · have HB := Lib.hid hb2
        clear hb2
        have HS2 : RowKit.Hid (wst (fs.take (j + 1)) = (ws, cur ++ [fs[j]])) := by
          unfold RowKit.Hid
          rw [HS.out]; unfold wstep; rw [HB.out]; rfl
        clear HS hex
        by_cases hne : cur = []
        · subst hne
          clear hcur
          go_wp2_with (go_at_call 90; refine (letter_any _ (by omega) true HB.out _).mono ?_; rintro e w' ⟨rfl, rfl⟩)
          go_roundw
          case rel =>
            refine ⟨j + 1, by omega, ⟨j, ?_, rfl, ?_, by omega, ?_⟩, hit2, hbw2⟩
            · rw [HS2.out]; exact hown2
            · rw [HS2.out]; rfl
            · rw [HS2.out, HT2.out, List.drop_eq_nil_of_le (by rw [List.length_take]; omega)]; exact fun _ => rfl
          case measure => rw [HM.out, pos_T _ _ _ _ hit2]; omega
        · have HC := Lib.hid (hcur hne)
          have hin : cur.isEmpty = false := by cases cur with | nil => exact absurd rfl hne | cons _ _ => rfl
          clear hcur
          go_wp2_with (go_at_call 90; refine (letter_any _ (by omega) true HB.out _).mono ?_; rintro e w' ⟨rfl, rfl⟩)
          go_roundw
          case rel =>
            refine ⟨j + 1, by omega, ⟨k, ?_, rfl, ?_, by omega, ?_⟩, hit2, hbw2⟩
            · rw [HS2.out]; exact hown2
            · rw [HS2.out]; simp
            · rw [HS2.out, HT.out, ← HC.out]; exact fun _ => rfl
          case measure => rw [HM.out, pos_T _ _ _ _ hit2]; omega
    · have hje : j = fs.length := by omega
      have hnx : ∀ ty, (Instr.next (.pointer (some ⟨w1.heap.size, 0, none⟩)) true ty).run Tryz.prog wr = _ := fun ty => end_T wr w1.heap.size fs j hit hje ty
      have hex := extract_T fs k fs.length
      rw [T_off, List.take_length] at hex
      have hole := off_le fs k
      have htl : fs.take j = fs := by rw [hje, List.take_length]
      rw [htl] at hown hcur hwl
      rw [htl]
      clear htl hje
      obtain ⟨ws, cur, hst⟩ : ∃ ws cur, wst fs = (ws, cur) := ⟨_, _, rfl⟩
      rw [hst] at hown hcur hwl
      rw [hst]
      have HST := Lib.hid hst
      clear hst
      simp only at hown hcur hwl
      have weak : ∀ (w' : World) (v : Value) (n : Nat) (xs : List Value), w'.ownsRow (w1.heap.size + 1) 9 1 v n xs → w'.ownsRow w.heap.size 9 1 v n xs := by
        intro w' v n xs hh
        refine ⟨hh.1, ?_⟩
        rcases hh.2 with hn | ⟨g, cap, cu, hv, hb, hg, rest⟩
        · exact .inl hn
        · exact .inr ⟨g, cap, cu, hv, by omega, hg, rest⟩
      have HW := Lib.hid weak
      clear weak
      by_cases hne : cur = []
      · subst hne
        clear hcur hex
        go_wp2
        go_ret
        refine ⟨_, rfl, ?_, hbw⟩
        rw [HST.out]
        exact HW.out _ _ _ _ hown
      · have HC := Lib.hid (hcur hne)
        have HX := Lib.hid hex
        have HNE := Lib.hid hne
        have hin : cur.isEmpty = false := by cases cur with | nil => exact absurd rfl hne | cons _ _ => rfl
        rw [show (!cur.isEmpty) = true by rw [hin]; rfl]
        clear hcur hex hne hin
        go_wp2_with (at_builtin; refine wpList_append_own _ rfl _ _ 28 rfl (w1.heap.size + 1) 9 i0 (.string ⟨#[]⟩) 1 16 Tryz.underlying28 hi hz0 hz1 hz2 rfl (by decide) _ _ _ rfl (hown.alloc _) ⟨wr.heap.size, 0, none⟩ 1 1 [.string ((T fs).extract (off fs k) (T fs).size)] rfl rfl ?c1 ?c2 ?c3 ?c4 ?c5 ?_)
        case c1 =>
          intro i u hi'
          match i, hi' with
          | 0, hi' => simp at hi'; subst hi'; simp [Addr.add]
        case c2 => intro u hu; simp at hu; subst hu; rfl
        case c3 => unfold maxLen; omega
        case c4 => omega
        case c5 => simp; omega
        intro v' w2 hown' hgrow _
        have hbw3 := (hbw.alloc (by omega) (.cells #[.string ((T fs).extract (off fs k) (T fs).size)] 9)).grown hgrow (by simp; omega) (fun k' hk' => by have := (hown.lt _ hk').1; omega)
        go_wp2
        go_ret
        refine ⟨_, rfl, ?_, hbw3⟩
        have eF : (flush (ws, cur)).1 = ws ++ [cur] := by unfold flush; rw [if_neg HNE.out]
        rw [HST.out, eF]
        rw [HX.out, ← HC.out] at hown'
        have e1 : (ws ++ [cur]).length = ws.length + 1 := by simp
        have e2 : (ws ++ [cur]).map strV = ws.map strV ++ [.string (T cur)] := by simp [strV]
        show w2.ownsRow _ _ _ _ (ws ++ [cur]).length ((ws ++ [cur]).map strV)
        rw [e1, e2]
        exact HW.out _ _ _ _ hown'
end

end Go.Proofs.YtmcolapcmjdoeaaGreatDoor
