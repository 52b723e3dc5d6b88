/- Merged: TWords, ByS. -/
import Derived.Test.YtjfbbpppdlaapaaDoorQ06
import Derived.Test.YtjfbbpppdlaapaaDoorQ07
import Derived.Test.YtjfbbpppdlaapaaDoorProg
import Derived.Lib.Hide
import Derived.Below
import Derived.WalkKit
import Derived.BigCall
import Derived.PlainAid
import Derived.Laws.AppendOwn
import Derived.Laws.BytesArg
namespace Go.Proofs.YtjfbbpppdlaapaaDoor

section
open Go.RowKit
/-- What the loop of Words has at place j. -/
def WAt (fs : List Nat) (j : Nat) (K : Nat) (v st ins : Value) (w : World) : Prop :=
  ∃ k : Nat, Strs (K + 1) v (wst (fs.take j)).1 w ∧ st = .int .i64 (off fs k) ∧ ins = .bool (!(wst (fs.take j)).2.isEmpty) ∧ k ≤ j ∧ ((wst (fs.take j)).2 ≠ [] → (wst (fs.take j)).2 = (fs.take j).drop k)

theorem wst_len (fs : List Nat) : (wst fs).1.length ≤ fs.length := by
  have h1 := wst_total fs
  have h2 := len_total (wst fs).1
  omega

theorem take_snoc' (fs : List Nat) (j k : Nat) (hj : j < fs.length) (hk : k ≤ j) : (fs.take (j + 1)).drop k = (fs.take j).drop k ++ [fs[j]] := by
  rw [List.take_succ_eq_append_getElem hj, List.drop_append_of_le_length (by rw [List.length_take]; omega)]

set_option maxHeartbeats 8000000 in
theorem words_any (cs : List Nat) (h : OKs cs) (s : ByteArray) (hs : s = T cs) (hz : cs.length ≤ 1000000) (w : World) (hE : Acc w) :
    Calls Tryd.prog 34 #[.string s] w fun e w' => ∃ v, e = .returned v ∧ Strs w.heap.size v (W cs) w' ∧ Below w.heap.size w w' := by
  have cF := fold_any cs h s hs hz w hE
  clear hs hE
  have hF := fold_OK cs h
  have hfl := fold_len cs
  have eW : W cs = (flush (wst (foldL cs))).1 := rfl
  rw [eW]
  clear eW
  generalize foldL cs = fs at cF hF hfl
  obtain ⟨i0, hi, hz0, hz1, hz2⟩ := info_parts infoStr
  go_enter Tryd.func34, Tryd.ntmps34
  go_wp2_with (go_at_call 54; refine cF.mono ?_; rintro e w1 ⟨rfl, hb⟩)
  clear cF
  have hB1 := hb.size
  obtain ⟨K, hK⟩ : ∃ K, w1.heap.size = K := ⟨_, rfl⟩
  have HK := Lib.hid hK
  have hB2 : w.heap.size ≤ K := by omega
  clear hK
  go_loopw [4, 5, 6] (fun v st ins wr => ∃ j : Nat, j ≤ fs.length ∧ WAt fs j w1.heap.size v st ins wr ∧ wr.heap[w1.heap.size]? = some (.stringIter (T fs) (off fs j)) ∧ Below w.heap.size w wr) (fun _ _ _ wr => (T fs).size - wr.iterPos w1.heap.size)
  case atStart =>
    refine ⟨0, Nat.zero_le _, ⟨0, World.ownsRow_nil _ _ _ _, by rw [off_zero]; rfl, rfl, Nat.le_refl _, fun h => absurd rfl h⟩, ?_, hb.alloc hB1 _⟩
    rw [off_zero]
    exact World.iter_heap w1 (T fs) 0
  case round =>
    obtain ⟨j, hj, ⟨k, hown, rfl, rfl, hkj, hcur⟩, hit, hbw⟩ := hrel
    have hsz : w1.heap.size < wr.heap.size := (Array.getElem?_eq_some_iff.1 hit).1
    have hwl := wst_len (fs.take j)
    have hl3 : (fs.take j).length ≤ j := List.length_take_le _ _
    by_cases hlt : j < fs.length
    · have hnx : ∀ ty, (Instr.next (.pointer (some ⟨w1.heap.size, 0, none⟩)) true ty).run Tryd.prog wr = _ := fun ty => next_T wr w1.heap.size fs hF j hit hlt ty
      have hit2 := Lib.iterAt_heap wr w1.heap.size (T fs) (off fs j) (off fs (j + 1)) hit
      have hbw2 := Lib.below_iterAt hbw (k := w1.heap.size) (by omega) (T fs) (off fs (j + 1))
      have hown2 := ownsRow_iterAt hown (Nat.lt_succ_self w1.heap.size) (T fs) (off fs (j + 1))
      have hsz2 : w1.heap.size < (wr.iterAt w1.heap.size (T fs) (off fs (j + 1))).heap.size := by rw [Lib.iterAt_size]; exact hsz
      have HM := Lib.hid (pos_T _ _ _ _ hit)
      have hol := off_lt fs j hlt
      have hoj := off_inj fs j (j + 1) (by omega) (by omega)
      have hok := okc_le (OKs_get hF hlt)
      have HS := Lib.hid (wst_take fs j hlt)
      have HT := Lib.hid (take_snoc' fs j k hlt hkj)
      have HT2 := Lib.hid (take_snoc' fs j j hlt (Nat.le_refl _))
      have hmk := off_mono fs k j hkj
      have hole := off_le fs j
      have hex := extract_T fs k j
      clear hown
      generalize wr.iterAt w1.heap.size (T fs) (off fs (j + 1)) = W1 at hnx hit2 hbw2 hown2 hsz2
      obtain ⟨ws, cur, hst⟩ : ∃ ws cur, wst (fs.take j) = (ws, cur) := ⟨_, _, rfl⟩
      rw [hst] at hown2 hcur HS hwl
      rw [hst]
      clear hst
      simp only at hown2 hcur hwl
      cases hb2 : letterc fs[j]
      · have HB := Lib.hid hb2
        clear hb2
        have eS : wstep (ws, cur) fs[j] = flush (ws, cur) := by unfold wstep; rw [HB.out]; rfl
        by_cases hne : cur = []
        · subst hne
          have HS2 : RowKit.Hid (wst (fs.take (j + 1)) = (ws, [])) := by
            unfold RowKit.Hid
            rw [HS.out, eS]; rfl
          clear eS HS hcur hex
          go_wp2_with (go_at_call 55; refine (letter_any _ (by omega) false HB.out _).mono ?_; rintro e w' ⟨rfl, rfl⟩)
          go_roundw
          case rel =>
            refine ⟨j + 1, by omega, ⟨k, ?_, rfl, ?_, by omega, ?_⟩, hit2, hbw2⟩
            · rw [HS2.out]; exact hown2
            · rw [HS2.out]; rfl
            · rw [HS2.out]; exact fun h => absurd rfl h
          case measure => rw [HM.out, pos_T _ _ _ _ hit2]; omega
        · have HS2 : RowKit.Hid (wst (fs.take (j + 1)) = (ws ++ [cur], [])) := by
            unfold RowKit.Hid
            rw [HS.out, eS]; unfold flush; rw [if_neg hne]
          have HC := Lib.hid (hcur hne)
          have HX := Lib.hid hex
          have hin : cur.isEmpty = false := by cases cur with | nil => exact absurd rfl hne | cons _ _ => rfl
          clear eS HS hcur hex
          go_wp2_with (first | (go_at_call 55; refine (letter_any _ (by omega) false HB.out _).mono ?_; rintro e w' ⟨rfl, rfl⟩) | (at_builtin; refine wpList_append_own _ rfl _ _ 25 rfl (w1.heap.size + 1) 9 i0 (.string ⟨#[]⟩) 1 16 Tryd.underlying25 hi hz0 hz1 hz2 rfl (by decide) _ _ _ rfl (hown2.alloc _) ⟨W1.heap.size, 0, none⟩ 1 1 [.string ((T fs).extract (off fs k) (off fs j))] rfl rfl ?c1 ?c2 ?c3 ?c4 ?c5 ?_))
          case c1 =>
            intro i u hi'
            match i, hi' with
            | 0, hi' => simp at hi'; subst hi'; simp [Addr.add]
          case c2 => intro u hu; simp at hu; subst hu; rfl
          case c3 => unfold maxLen; omega
          case c4 => omega
          case c5 => simp; omega
          intro v' w2 hown' hgrow _
          have hit3 : w2.heap[w1.heap.size]? = some (.stringIter (T fs) (off fs (j + 1))) := by
            rw [hgrow.block w1.heap.size (by simp; omega) (fun e => by have := (hown2.lt _ e.symm).1; omega), Lib.alloc_old W1 _ _ hsz2]
            exact hit2
          have hbw3 := (hbw2.alloc (by omega) (.cells #[.string ((T fs).extract (off fs k) (off fs j))] 9)).grown hgrow (by simp; omega) (fun k' hk' => by have := (hown2.lt _ hk').1; omega)
          go_wp2
          go_roundw
          case rel =>
            refine ⟨j + 1, by omega, ⟨k, ?_, rfl, ?_, by omega, ?_⟩, hit3, hbw3⟩
            · rw [HS2.out]
              rw [HX.out, ← HC.out] at hown'
              have e1 : (ws ++ [cur]).length = ws.length + 1 := by simp
              have e2 : (ws ++ [cur]).map strV = ws.map strV ++ [.string (T cur)] := by simp [strV]
              show w2.ownsRow _ _ _ _ (ws ++ [cur]).length ((ws ++ [cur]).map strV)
              rw [e1, e2]
              exact hown'
            · rw [HS2.out]; rfl
            · rw [HS2.out]; exact fun h => absurd rfl h
          case measure => rw [HM.out, pos_T _ _ _ _ hit3]; omega
      · have HB := Lib.hid hb2
        clear hb2
        have HS2 : RowKit.Hid (wst (fs.take (j + 1)) = (ws, cur ++ [fs[j]])) := by
          unfold RowKit.Hid
          rw [HS.out]; unfold wstep; rw [HB.out]; rfl
        clear HS hex
        by_cases hne : cur = []
        · subst hne
          clear hcur
          go_wp2_with (go_at_call 55; refine (letter_any _ (by omega) true HB.out _).mono ?_; rintro e w' ⟨rfl, rfl⟩)
          go_roundw
          case rel =>
            refine ⟨j + 1, by omega, ⟨j, ?_, rfl, ?_, by omega, ?_⟩, hit2, hbw2⟩
            · rw [HS2.out]; exact hown2
            · rw [HS2.out]; rfl
            · rw [HS2.out, HT2.out, List.drop_eq_nil_of_le (by rw [List.length_take]; omega)]; exact fun _ => rfl
          case measure => rw [HM.out, pos_T _ _ _ _ hit2]; omega
        · have HC := Lib.hid (hcur hne)
          have hin : cur.isEmpty = false := by cases cur with | nil => exact absurd rfl hne | cons _ _ => rfl
          clear hcur
          go_wp2_with (go_at_call 55; refine (letter_any _ (by omega) true HB.out _).mono ?_; rintro e w' ⟨rfl, rfl⟩)
          go_roundw
          case rel =>
            refine ⟨j + 1, by omega, ⟨k, ?_, rfl, ?_, by omega, ?_⟩, hit2, hbw2⟩
            · rw [HS2.out]; exact hown2
            · rw [HS2.out]; simp
            · rw [HS2.out, HT.out, ← HC.out]; exact fun _ => rfl
          case measure => rw [HM.out, pos_T _ _ _ _ hit2]; omega
    · have hje : j = fs.length := by omega
      have hnx : ∀ ty, (Instr.next (.pointer (some ⟨w1.heap.size, 0, none⟩)) true ty).run Tryd.prog wr = _ := fun ty => end_T wr w1.heap.size fs j hit hje ty
      have hex := extract_T fs k fs.length
      rw [T_off, List.take_length] at hex
      have hole := off_le fs k
      have htl : fs.take j = fs := by rw [hje, List.take_length]
      rw [htl] at hown hcur hwl
      rw [htl]
      clear htl hje
      obtain ⟨ws, cur, hst⟩ : ∃ ws cur, wst fs = (ws, cur) := ⟨_, _, rfl⟩
      rw [hst] at hown hcur hwl
      rw [hst]
      have HST := Lib.hid hst
      clear hst
      simp only at hown hcur hwl
      have weak : ∀ (w' : World) (v : Value) (n : Nat) (xs : List Value), w'.ownsRow (w1.heap.size + 1) 9 1 v n xs → w'.ownsRow w.heap.size 9 1 v n xs := by
        intro w' v n xs hh
        refine ⟨hh.1, ?_⟩
        rcases hh.2 with hn | ⟨g, cap, cu, hv, hb, hg, rest⟩
        · exact .inl hn
        · exact .inr ⟨g, cap, cu, hv, by omega, hg, rest⟩
      have HW := Lib.hid weak
      clear weak
      by_cases hne : cur = []
      · subst hne
        clear hcur hex
        go_wp2
        go_ret
        refine ⟨_, rfl, ?_, hbw⟩
        rw [HST.out]
        exact HW.out _ _ _ _ hown
      · have HC := Lib.hid (hcur hne)
        have HX := Lib.hid hex
        have HNE := Lib.hid hne
        have hin : cur.isEmpty = false := by cases cur with | nil => exact absurd rfl hne | cons _ _ => rfl
        rw [show (!cur.isEmpty) = true by rw [hin]; rfl]
        clear hcur hex hne hin
        go_wp2_with (at_builtin; refine wpList_append_own _ rfl _ _ 25 rfl (w1.heap.size + 1) 9 i0 (.string ⟨#[]⟩) 1 16 Tryd.underlying25 hi hz0 hz1 hz2 rfl (by decide) _ _ _ rfl (hown.alloc _) ⟨wr.heap.size, 0, none⟩ 1 1 [.string ((T fs).extract (off fs k) (T fs).size)] rfl rfl ?c1 ?c2 ?c3 ?c4 ?c5 ?_)
        case c1 =>
          intro i u hi'
          match i, hi' with
          | 0, hi' => simp at hi'; subst hi'; simp [Addr.add]
        case c2 => intro u hu; simp at hu; subst hu; rfl
        case c3 => unfold maxLen; omega
        case c4 => omega
        case c5 => simp; omega
        intro v' w2 hown' hgrow _
        have hbw3 := (hbw.alloc (by omega) (.cells #[.string ((T fs).extract (off fs k) (T fs).size)] 9)).grown hgrow (by simp; omega) (fun k' hk' => by have := (hown.lt _ hk').1; omega)
        go_wp2
        go_ret
        refine ⟨_, rfl, ?_, hbw3⟩
        have eF : (flush (ws, cur)).1 = ws ++ [cur] := by unfold flush; rw [if_neg HNE.out]
        rw [HST.out, eF]
        rw [HX.out, ← HC.out] at hown'
        have e1 : (ws ++ [cur]).length = ws.length + 1 := by simp
        have e2 : (ws ++ [cur]).map strV = ws.map strV ++ [.string (T cur)] := by simp [strV]
        show w2.ownsRow _ _ _ _ (ws ++ [cur]).length ((ws ++ [cur]).map strV)
        rw [e1, e2]
        exact HW.out _ _ _ _ hown'
end

section
open Go.RowKit Go.PlainAid
/-- A text of these bytes. -/
def S (l : List UInt8) : ByteArray := ⟨l.toArray⟩
theorem S_size (l : List UInt8) : (S l).size = l.length := by simp [S, ByteArray.size]
theorem S_append (a b : List UInt8) : S a ++ S b = S (a ++ b) := by
  apply ByteArray.ext
  apply Array.toList_inj.1
  simp [S, ByteArray.data_append]
theorem S_list (l : List UInt8) : (S l).data.toList = l := rfl
theorem S_of (s : ByteArray) : S s.data.toList = s := rfl
theorem S_inj {a b : List UInt8} (h : S a = S b) : a = b := by
  have := congrArg (fun s : ByteArray => s.data.toList) h
  exact this
theorem S_extract (l : List UInt8) (a b : Nat) : (S l).extract a b = S ((l.take b).drop a) := by
  apply ByteArray.ext
  apply Array.toList_inj.1
  simp [S, ByteArray.data_extract, List.drop_take]
theorem bt_S (l : List UInt8) (i : Nat) : bt (S l) i = ((l.getD i 0).toNat : Int) := by
  unfold bt
  by_cases h : i < (S l).size
  · rw [dif_pos h]
    have h' : i < l.length := by rwa [S_size] at h
    rw [List.getD_eq_getElem?_getD, List.getElem?_eq_getElem h']
    rfl
  · rw [dif_neg h]
    have h' : ¬ i < l.length := by rwa [S_size] at h
    rw [List.getD_eq_getElem?_getD, List.getElem?_eq_none (by omega)]
    rfl
/-- The byte of a digit. -/
def dgt (r : Nat) : UInt8 := UInt8.ofNat (48 + r)
theorem dgt_nat (c : Nat) (h : c ≤ 9) : (dgt c).toNat = 48 + c := by
  unfold dgt
  rw [UInt8.toNat_ofNat']
  omega
theorem S_facts (l : List UInt8) (h : l ≠ []) : (S l).toList.isEmpty = false ∧ ¬ (S l).toList = [] := by
  have h2 : (S l).toList = l := by
    rw [ByteArray.toList_eq]; rfl
  rw [h2]
  refine ⟨?_, h⟩
  cases l with
  | nil => exact absurd rfl h
  | cons _ _ => rfl
theorem first_bad (f : Nat → Bool) : ∀ n, (∀ i, i < n → f i = true) ∨ ∃ j, j < n ∧ (∀ i, i < j → f i = true) ∧ f j = false
  | 0 => .inl fun i hi => by omega
  | n + 1 => by
    rcases first_bad f n with h | ⟨j, hj, h⟩
    · cases hf : f n
      · exact .inr ⟨n, Nat.lt_succ_self n, h, hf⟩
      · exact .inl fun i hi => by
          rcases Nat.lt_or_ge i n with h1 | h1
          · exact h i h1
          · rw [show i = n by omega]; exact hf
    · exact .inr ⟨j, by omega, h⟩

/-! A slice of bytes of the call's own. -/
def u8V (x : UInt8) : Value := .int .u8 (x.toNat : Int)
theorem infoByteS : (Tryd.prog.info? 5).map (fun i => (i.zero, i.size, i.bytes)) = some (some (.int .u8 0), 1, 1) := by kernel_rfl
theorem strOfNums_S (l : List UInt8) : strOfNums (l.map fun x => (x.toNat : Int)) = S l := by
  apply ByteArray.ext
  apply Array.toList_inj.1
  rw [strOfNums_data, List.map_map]
  show l.map _ = l
  conv => rhs; rw [← List.map_id l]
  refine List.map_congr_left fun x _ => ?_
  simp
/-- A slice of bytes in memory from block B on, not nil: these bytes. -/
structure Byt (B : Nat) (v : Value) (xs : List UInt8) (w : World) : Prop where
  row : w.ownsRow B 5 1 v xs.length (xs.map u8V)
  form : ∃ g cap, v = .slice (some ⟨g, 0, none⟩) xs.length cap
theorem Byt.mk' {B : Nat} {v : Value} {xs : List UInt8} {w : World} (h : w.ownsRow B 5 1 v xs.length (xs.map u8V)) (hne : xs ≠ []) : Byt B v xs w := by
  refine ⟨h, ?_⟩
  rcases h.2 with ⟨_, h0⟩ | ⟨g, cap, cur, rfl, hb, hg, hc, hm, hs, ht⟩
  · exact absurd (List.eq_nil_of_length_eq_zero h0) hne
  · exact ⟨g, cap, rfl⟩
theorem Byt.open {B : Nat} {v : Value} {xs : List UInt8} {w : World} (h : Byt B v xs w) :
    ∃ g cap, v = .slice (some ⟨g, 0, none⟩) xs.length cap ∧ B ≤ g ∧ g < w.heap.size ∧ ∀ i u, (xs.map u8V)[i]? = some u → w.cell? ⟨g, i, none⟩ = some u := by
  obtain ⟨g', cap', e⟩ := h.form
  rcases h.row.2 with ⟨h0, _⟩ | ⟨g, cap, cur, rfl, hb, hg, hc, hm, hs, ht⟩
  · rw [h0] at e; cases e
  · refine ⟨g, cap, rfl, hb, (Array.getElem?_eq_some_iff.1 hg).1, fun i u hi => ?_⟩
    have := h.row.cells (g := g) rfl i u hi
    have hadd : (⟨g, 0, none⟩ : Addr).add i = ⟨g, i, none⟩ := by unfold Addr.add; split <;> simp_all
    rwa [hadd] at this
theorem Byt.empty (w : World) : Byt w.heap.size (.slice (some ⟨w.heap.size, 0, none⟩) 0 0) [] (w.alloc (.cells #[] 5)) :=
  ⟨⟨rfl, .inr ⟨w.heap.size, 0, #[], rfl, Nat.le_refl _, heap_alloc_new w _, Nat.le_refl _, Nat.zero_le _, rfl, rfl⟩⟩, ⟨_, _, rfl⟩⟩
theorem Byt.one (w : World) (x : UInt8) : Byt w.heap.size (.slice (some ⟨w.heap.size, 0, none⟩) 1 1) [x] (w.alloc (.cells #[u8V x] 5)) :=
  ⟨⟨rfl, .inr ⟨w.heap.size, 1, #[u8V x], rfl, Nat.le_refl _, heap_alloc_new w _, Nat.le_refl _, by decide, rfl, rfl⟩⟩, ⟨_, _, rfl⟩⟩
theorem cells_one (w : World) (x : Value) (t : TypeId) : ∀ j u, [x][j]? = some u → (w.alloc (.cells #[x] t)).cell? ((⟨w.heap.size, 0, none⟩ : Addr).add j) = some u := by
  intro j u hj
  match j, hj with
  | 0, hj => simp at hj; subst hj; simp [Addr.add]
  | (j + 1), hj => simp at hj
theorem info_byte : ∃ i0, Tryd.prog.info? 5 = some i0 ∧ i0.zero = some (.int .u8 0) ∧ i0.size = 1 ∧ i0.bytes = 1 := by
  obtain ⟨i0, h0, h2⟩ := Option.map_eq_some_iff.1 infoByteS
  simp only [Prod.mk.injEq] at h2
  exact ⟨i0, h0, h2.1, h2.2.1, h2.2.2⟩
end

end Go.Proofs.YtjfbbpppdlaapaaDoor
