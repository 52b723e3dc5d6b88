/- Merged: PD12, PE12. -/
import Derived.Test.YtjfbbpppdlaapaaDoorQ24
import Derived.Deep.OwnRows
namespace Go.Proofs.YtjfbbpppdlaapaaDoor

section
open Go.RowKit Go.PlainAid
def joinE (L : List (List UInt8)) : Int := if L.length = 0 then 8 else if 4 < L.length then 4 else firstE12 L
theorem joinX_prog (L : List (List UInt8)) : joinX L = if joinE L ≠ 0 then ([], joinE L) else if 200 < (gluX dd L).length then ([], 4) else (gluX dd L, 0) := by
  unfold joinX joinE
  by_cases h0 : L.length = 0
  · rw [if_pos h0, if_pos h0]
    rfl
  · rw [if_neg h0, if_neg h0]
    by_cases h4 : 4 < L.length
    · rw [if_pos h4, if_pos h4]
      rfl
    · rw [if_neg h4, if_neg h4]
set_option maxHeartbeats 16000000 in
set_option maxRecDepth 100000 in
theorem joinable_any (L : List (List UInt8)) (v : Value) (w : World) (hE : Env w) (hv : BL v L w) (hn : L.length ≤ 1000000) (hL : ∀ x ∈ L, x.length ≤ 100000) (er : Int) (hs : joinE L = er) :
    Calls Tryd.prog 38 #[v] w fun e w' => e = .returned (.int .i64 er) ∧ Below w.heap.size w w' := by
  have HV := Lib.hid hv
  obtain ⟨a, cap, rfl, hcap, hmax⟩ := hv.length
  unfold joinE at hs
  obtain ⟨n, hn2⟩ : ∃ n, L.length = n := ⟨_, rfl⟩
  rw [hn2] at HV hn hs ⊢
  have HN := Lib.hid hn2
  clear hv hn2 hcap hmax
  by_cases h0 : n = 0
  · rw [if_pos h0] at hs
    subst hs
    subst h0
    go_enter Tryd.func38, Tryd.ntmps38
    go_wp2
    first | exact ⟨rfl, Below.refl _ _⟩ | (go_ret; exact ⟨rfl, Below.refl _ _⟩)
  rw [if_neg h0] at hs
  have t0 : ((n : Int) == 0) = false := by simp; omega
  have t0n : decide (n = 0) = false := decide_eq_false h0
  by_cases h4 : 4 < n
  · rw [if_pos h4] at hs
    subst hs
    have t4 : decide ((4 : Int) < (n : Int)) = true := decide_eq_true (by omega)
    have t4n : decide (4 < n) = true := decide_eq_true h4
    clear h0 h4
    go_enter Tryd.func38, Tryd.ntmps38
    go_wp2
    first | exact ⟨rfl, Below.refl _ _⟩ | (go_ret; exact ⟨rfl, Below.refl _ _⟩)
  rw [if_neg h4] at hs
  have t4 : decide ((4 : Int) < (n : Int)) = false := decide_eq_false (by omega)
  have t4n : decide (4 < n) = false := decide_eq_false h4
  have hn4 : n ≤ 4 := by omega
  have HS := Lib.hid hs
  have HD0 : RowKit.Hid (firstE12 (L.drop 0) = er) := by
    unfold RowKit.Hid
    rw [List.drop_zero]
    exact hs
  have HLx := Lib.hid hL
  have HE := Lib.hid (fun (W : World) (hb : Below w.heap.size w W) => hE.after hb)
  clear h0 h4 hL hs hE
  go_enter Tryd.func38, Tryd.ntmps38
  go_wp2
  go_loopw [13] (fun i wr => ∃ k : Nat, i = .int .i64 (k : Int) ∧ k ≤ n ∧ RowKit.Hid (firstE12 (L.drop k) = er) ∧ RowKit.Hid (Below w.heap.size w wr)) (fun i _ => n - (intOf i).toNat)
  case atStart => exact ⟨0, rfl, Nat.zero_le _, HD0, Below.refl _ _⟩
  case round =>
    obtain ⟨k, rfl, hk, HD, HB⟩ := hrel
    by_cases hkn : k < n
    · have i1 : (0 : Int) ≤ (k : Int) := by omega
      have i2 : (k : Int) < (n : Int) := by omega
      obtain ⟨g2, o2, cap2, he, hg, c0⟩ := (HV.out.after HB.out).at12 k (by rw [HN.out]; exact hkn)
      obtain ⟨ha, -, hcp⟩ := Value.slice.inj he
      subst ha
      subst hcp
      clear he
      have hkl : k < L.length := by rw [HN.out]; exact hkn
      have hget : L[k]? = some (L.getD k []) := by rw [List.getD_eq_getElem?_getD, List.getElem?_eq_getElem hkl]; rfl
      have hgo := join_go L k _ hget
      have hxl := HLx.out _ (mem_getD12 L k hkl)
      obtain ⟨x, hx⟩ : ∃ x, L.getD k [] = x := ⟨_, rfl⟩
      rw [hx] at c0 hgo hxl
      rw [HD.out] at hgo
      have HGo := Lib.hid hgo
      have HPE := Lib.hid (partE_prog x)
      have hsf := S_facts x
      obtain ⟨cb1, hcb⟩ : ∃ b, cleanB x = b := ⟨_, rfl⟩
      obtain ⟨sb1, hsb⟩ : ∃ b, sepX x = b := ⟨_, rfl⟩
      have cC := Lib.hid (clean12_any x (by omega) cb1 hcb wr (HE.out wr HB.out))
      have cS := Lib.hid (fun W hW => separable_any x (by omega) sb1 hsb W hW)
      rw [hcb, hsb] at HPE
      clear hget hgo hxl hx hcb hsb hkl
      by_cases h0 : x = []
      · subst h0
        have e0 : S [] = (⟨#[]⟩ : ByteArray) := rfl
        rw [e0] at c0
        have hr : er = 8 := HGo.out
        subst hr
        clear cC cS HGo HPE hsf HLx HD
        go_wp2
        first | exact ⟨rfl, HB.out⟩ | (go_ret; exact ⟨rfl, HB.out⟩)
      · obtain ⟨s1, s2⟩ := hsf h0
        have hpe := HPE.out h0
        clear HPE h0 hsf
        generalize S x = sx at *
        go_wp2_with fail
        refine cC.out.mono ?_
        rintro e w1 ⟨rfl, hb1⟩
        have B1 := Lib.hid (HB.out.trans (hb1.mono HB.out.size))
        clear hb1 cC c0
        cases cb1 with
        | false =>
          have hr : er = 3 := by
            have h := HGo.out
            rw [hpe] at h
            exact h
          subst hr
          clear HGo hpe cS
          go_wp2
          first | exact ⟨rfl, B1.out⟩ | (go_ret; exact ⟨rfl, B1.out⟩)
        | true =>
          have cS1 := Lib.hid (cS.out w1 (HE.out w1 B1.out))
          clear cS
          go_wp2_with fail
          refine cS1.out.mono ?_
          rintro e w2 ⟨rfl, hb2⟩
          have B2 := Lib.hid (B1.out.trans (hb2.mono B1.out.size))
          clear hb2 cS1
          cases sb1 with
          | false =>
            have hr : er = 3 := by
              have h := HGo.out
              rw [hpe] at h
              exact h
            subst hr
            clear HGo hpe
            go_wp2
            first | exact ⟨rfl, B2.out⟩ | (go_ret; exact ⟨rfl, B2.out⟩)
          | true =>
            have HD2 : RowKit.Hid (firstE12 (L.drop (k + 1)) = er) := by
              have h := HGo.out
              rw [hpe] at h
              exact h.symm
            clear HGo hpe
            go_wp2
            go_roundw
            case rel => exact ⟨k + 1, by go_num, by omega, HD2, B2⟩
            case measure => simp [intOf]; omega
    · obtain rfl : k = n := by omega
      have hr : er = 0 := by
        have h := HD.out
        rw [List.drop_eq_nil_of_le (by rw [HN.out]; exact Nat.le_refl _)] at h
        exact h.symm
      subst hr
      go_wp2
      first | exact ⟨rfl, HB.out⟩ | (go_ret; exact ⟨rfl, HB.out⟩)
set_option maxHeartbeats 4000000 in
theorem pJoin12_any (L : List (List UInt8)) (v : Value) (w : World) (_hE : Env w) (hv : BL v L w) (hn : L.length ≤ 1000000) (hL : ∀ x ∈ L, x.length ≤ 100000) (s : List UInt8) (er : Int) (hs : joinX L = (s, er)) :
    Calls Tryd.prog 21 #[v] w fun e w' => e = .returned (.tuple #[.string (S s), .int .i64 er]) ∧ Below w.heap.size w w' := by
  rw [joinX_prog] at hs
  obtain ⟨Q, hQ⟩ : ∃ Q, (fun (e : Ending) (w' : World) => e = .returned (.tuple #[.string (S s), .int .i64 er]) ∧ Below w.heap.size w w') = Q := ⟨_, rfl⟩
  rw [hQ]
  obtain ⟨je, hje⟩ : ∃ j, joinE L = j := ⟨_, rfl⟩
  have cJ := Lib.hid (joinable_any L v w _hE hv hn hL je hje)
  have cG := Lib.hid (fun W (hb : Below w.heap.size w W) => cJoin dd v L W (hv.after hb) (by decide) 100000 (by decide) hL hn)
  have edd : S dd = ⟨#[45, 45]⟩ := rfl
  rw [edd] at cG
  rw [hje] at hs
  obtain ⟨y, hy⟩ : ∃ y, gluX dd L = y := ⟨_, rfl⟩
  rw [hy] at cG hs
  have hsz := S_size y
  have HErr : RowKit.Hid (je ≠ 0 → ∀ W, Below w.heap.size w W → Q (.returned (.tuple #[.string ⟨#[]⟩, .int .i64 je])) W) := by
    intro h W hW
    rw [if_pos h] at hs
    obtain ⟨rfl, rfl⟩ := Prod.mk.inj hs
    rw [← hQ]
    exact ⟨rfl, hW⟩
  have HLong : RowKit.Hid (je = 0 → 200 < y.length → ∀ W, Below w.heap.size w W → Q (.returned (.tuple #[.string ⟨#[]⟩, .int .i64 4])) W) := by
    intro h h2 W hW
    rw [if_neg (fun g => g h), if_pos h2] at hs
    obtain ⟨rfl, rfl⟩ := Prod.mk.inj hs
    rw [← hQ]
    exact ⟨rfl, hW⟩
  have HYes : RowKit.Hid (je = 0 → ¬ 200 < y.length → ∀ W, Below w.heap.size w W → Q (.returned (.tuple #[.string (S y), .int .i64 0])) W) := by
    intro h h2 W hW
    rw [if_neg (fun g => g h), if_neg h2] at hs
    obtain ⟨rfl, rfl⟩ := Prod.mk.inj hs
    rw [← hQ]
    exact ⟨rfl, hW⟩
  obtain ⟨m, hm⟩ : ∃ m, y.length = m := ⟨_, rfl⟩
  rw [hm] at hsz HLong HYes
  clear hje hy edd hv hn hL _hE hs hm hQ
  generalize S y = sy at *
  go_enter Tryd.func21, Tryd.ntmps21
  go_wp2_with fail
  refine cJ.out.mono ?_
  rintro e w1 ⟨rfl, hb1⟩
  have B1 := Lib.hid hb1
  have cG1 := Lib.hid (cG.out w1 hb1)
  clear hb1 cJ cG
  by_cases h0 : je = 0
  · subst h0
    clear HErr
    go_wp2_with fail
    refine cG1.out.mono ?_
    rintro e w2 ⟨rfl, hb2⟩
    have B2 := Lib.hid (B1.out.trans (hb2.mono B1.out.size))
    clear hb2 cG1
    by_cases h2 : 200 < m
    · have hno := HLong.out (by simp) h2 w2 B2.out
      have t2 : decide ((200 : Int) < (m : Int)) = true := decide_eq_true (by omega)
      have t2n : decide (200 < m) = true := decide_eq_true h2
      clear h2 HLong HYes
      go_wp2
      first | exact hno | (go_ret2; exact hno) | (refine bodyPost_ret (results_tmp2 rfl _ _ _) rfl ?_; exact hno)
    · have hno := HYes.out (by simp) h2 w2 B2.out
      have t2 : decide ((200 : Int) < (m : Int)) = false := decide_eq_false (by omega)
      have t2n : decide (200 < m) = false := decide_eq_false h2
      clear h2 HLong HYes
      go_wp2
      first | exact hno | (go_ret2; exact hno) | (refine bodyPost_ret (results_tmp2 rfl _ _ _) rfl ?_; exact hno)
  · have hno := HErr.out h0 w1 B1.out
    have t0 : (je == 0) = false := by simp; omega
    have t0m : (je != 0) = true := by simp; omega
    clear h0 HErr HLong HYes
    go_wp2
    first | exact hno | (go_ret2; exact hno) | (refine bodyPost_ret (results_tmp2 rfl _ _ _) rfl ?_; exact hno)
end

section
open Go.RowKit Go.PlainAid
/-! A row of texts in a block of its own, all its places in use. -/
structure RowS (w : World) (M : List (List UInt8)) (wr : World) : Prop where
  row : ∃ cur : Array Value, wr.heap[w.heap.size]? = some (.cells cur 9 (0, 0)) ∧ cur.toList = M.map strB
  bel : Below w.heap.size w wr
theorem RowS.fz {w wr : World} {M : List (List UInt8)} (h : RowS w M wr) (i : Nat) : wr.frozen? ⟨w.heap.size, i, none⟩ = false := by
  obtain ⟨cur, hr, _⟩ := h.row
  simp [World.frozen?, hr]
theorem RowS.lt {w wr : World} {M : List (List UInt8)} (h : RowS w M wr) : w.heap.size < wr.heap.size := by
  obtain ⟨cur, hr, _⟩ := h.row
  exact (Array.getElem?_eq_some_iff.1 hr).1
theorem RowS.cell {w wr : World} {M : List (List UInt8)} (h : RowS w M wr) (i : Nat) (hi : i < M.length) : wr.cell? ⟨w.heap.size, i, none⟩ = some (.string (S (M.getD i []))) := by
  obtain ⟨cur, hr, hc⟩ := h.row
  have h1 : cur[i]? = some (strB (M.getD i [])) := by
    rw [← Array.getElem?_toList, hc, List.getElem?_map, List.getD_eq_getElem?_getD, List.getElem?_eq_getElem hi]
    rfl
  simp only [World.cell?, hr]
  exact h1
theorem RowS.after {w wr w' : World} {M : List (List UInt8)} (h : RowS w M wr) (hb : Below wr.heap.size wr w') : RowS w M w' := by
  obtain ⟨cur, hr, hc⟩ := h.row
  exact ⟨⟨cur, (hb.block _ (Array.getElem?_eq_some_iff.1 hr).1).trans hr, hc⟩, h.bel.trans (hb.mono h.bel.size)⟩
theorem RowS.set {w wr : World} {M : List (List UInt8)} (h : RowS w M wr) (i : Nat) (x : List UInt8) : RowS w (M.set i x) (wr.setCell ⟨w.heap.size, i, none⟩ (.string (S x))) := by
  obtain ⟨cur, hr, hc⟩ := h.row
  refine ⟨⟨cur.setIfInBounds i (.string (S x)), ?_, ?_⟩, h.bel.setCell (p := ⟨w.heap.size, i, none⟩) (Nat.le_refl _) _⟩
  · simp [World.setCell, Array.getElem?_modify, hr]
  · rw [Array.toList_setIfInBounds, hc, List.map_set]
    rfl
theorem RowS.sr {w wr : World} {M : List (List UInt8)} {n : Nat} (h : RowS w M wr) (hl : M.length = n) (hn : n ≤ maxLen) : SR w.heap.size (.slice (some ⟨w.heap.size, 0, none⟩) n n) M wr := by
  obtain ⟨cur, hr, hc⟩ := h.row
  have hs : cur.size = n := by rw [← Array.length_toList, hc, List.length_map, hl]
  refine ⟨⟨by simp, .inr ⟨w.heap.size, n, cur, by rw [hl], Nat.le_refl _, hr, by omega, hn, by omega, ?_⟩⟩, fun h => by cases h⟩
  rw [hc, List.take_of_length_le (by simp)]
/-! What lies in the row of broader headings after k of them. -/
def abvK (P : List (List UInt8)) (m k : Nat) : List (List UInt8) := (List.range m).map fun j => if m ≤ j + k then gluX dd (P.take (m - j)) else []
theorem abvK_len (P : List (List UInt8)) (m k : Nat) : (abvK P m k).length = m := by simp [abvK]
theorem abvK_zero (P : List (List UInt8)) (m : Nat) : abvK P m 0 = List.replicate m [] := by
  apply List.ext_getElem
  · simp [abvK]
  · intro i h1 h2
    have hi : i < m := by simpa [abvK] using h1
    have hn : ¬ m ≤ i := by omega
    simp [abvK, hn]
theorem abvK_all (P : List (List UInt8)) (m : Nat) (h : P.length = m + 1) : abvK P m m = aboveL P := by
  unfold abvK aboveL
  rw [h, Nat.add_sub_cancel]
  refine List.map_congr_left fun j _ => ?_
  rw [if_pos (by omega)]
theorem abvK_set (P : List (List UInt8)) (m k q : Nat) (hq : q + k + 1 = m) : (abvK P m k).set q (gluX dd (P.take (k + 1))) = abvK P m (k + 1) := by
  apply List.ext_getElem
  · simp [abvK]
  · intro i h1 h2
    have hi : i < m := by simpa [abvK] using h2
    rw [List.getElem_set]
    by_cases e : q = i
    · subst e
      have hm : m - q = k + 1 := by omega
      have hm2 : m ≤ q + (k + 1) := by omega
      simp [abvK, hm, hm2]
    · rw [if_neg e]
      have hm : (m ≤ i + k) ↔ (m ≤ i + (k + 1)) := by omega
      simp [abvK, hm]
theorem glu_step (P : List (List UInt8)) : ∀ d k, k + d ≤ P.length → ∃ r, gluX dd (P.take (k + d)) = gluX dd (P.take k) ++ r
  | 0, k, _ => ⟨[], by simp⟩
  | d + 1, k, h => by
    obtain ⟨r, hr⟩ := glu_step P d k (by omega)
    rw [← Nat.add_assoc, glu_take dd P (k + d) (by omega), hr]
    by_cases e : k + d = 0
    · rw [if_pos e]
      exact ⟨_, List.append_assoc _ _ _⟩
    · rw [if_neg e]
      exact ⟨r ++ dd ++ P.getD (k + d) [], by simp only [List.append_assoc]⟩
theorem glu_begin (P : List (List UInt8)) (k : Nat) (h : k ≤ P.length) : (gluX dd P).take (gluX dd (P.take k)).length = gluX dd (P.take k) ∧ (gluX dd (P.take k)).length ≤ (gluX dd P).length := by
  obtain ⟨r, hr⟩ := glu_step P (P.length - k) k (by omega)
  rw [show k + (P.length - k) = P.length by omega, List.take_length] at hr
  rw [hr]
  refine ⟨List.take_left, ?_⟩
  rw [List.length_append]
  omega
theorem glu_first (P : List (List UInt8)) (h : 0 < P.length) : (gluX dd (P.take 1)).length = (P.getD 0 []).length := by
  rw [show 1 = 0 + 1 from rfl, glu_take dd P 0 h, if_pos rfl]
  rfl
theorem glu_next (P : List (List UInt8)) (k : Nat) (h : k + 1 < P.length) : (gluX dd (P.take (k + 2))).length = (gluX dd (P.take (k + 1))).length + (2 + (P.getD (k + 1) []).length) := by
  rw [glu_take dd P (k + 1) h, if_neg (by omega), List.length_append, List.length_append]
  show _ + 2 + _ = _
  omega
set_option maxHeartbeats 16000000 in
set_option maxRecDepth 100000 in
theorem pAbove12_any (l : List UInt8) (hv : validT l = true) (hl : l.length ≤ 10000) (w : World) (_hE : Env w) :
    Calls Tryd.prog 23 #[.string (S l)] w fun e w' => ∃ v, e = .returned v ∧ BL v (aboveX l) w' ∧ Below w.heap.size w w' := by
  obtain ⟨Q, hQ⟩ : ∃ Q, (fun (e : Ending) (w' : World) => ∃ v, e = .returned v ∧ BL v (aboveX l) w' ∧ Below w.heap.size w w') = Q := ⟨_, rfl⟩
  rw [hQ]
  have HQ : RowKit.Hid (∀ v W, BL v (aboveX l) W → Below w.heap.size w W → Q (.returned v) W) := by rw [← hQ]; exact fun v W h k => ⟨v, rfl, h, k⟩
  clear hQ
  have cS := Lib.hid (parts_any l hv (by omega) w _hE)
  have hpl := parts_max l hv
  have hpn : (partsX l).length ≤ 10001 := by
    have h1 := nonE_le ((splG dd l).map cleanX)
    have h2 := spl_len dd l.length l (Nat.le_refl _)
    unfold partsX
    rw [List.length_map] at h1
    omega
  unfold aboveX at HQ
  obtain ⟨P, hP⟩ : ∃ P, partsX l = P := ⟨_, rfl⟩
  rw [hP] at cS hpl hpn HQ
  have hpl : ∀ x ∈ P, x.length ≤ 100000 := fun x hx => Nat.le_trans (hpl x hx) (by omega)
  have HG := Lib.hid (fun v W h => cJoin dd v P W h (by decide) 100000 (by decide) hpl (by omega))
  have hgl := glu_le dd 100000 (by decide) P hpl
  have edd : S dd = ⟨#[45, 45]⟩ := rfl
  rw [edd] at HG
  obtain ⟨n, hn⟩ : ∃ n, P.length = n := ⟨_, rfl⟩
  rw [hn] at hpn hgl
  have hgl2 : (gluX dd P).length ≤ 2000000000 := by
    have : (100000 + 100) * n ≤ 100100 * 10001 := Nat.mul_le_mul_left _ hpn
    omega
  have HN := Lib.hid hn
  clear hP edd hl hv hn _hE hgl
  generalize S l = st at *
  go_enter Tryd.func23, Tryd.ntmps23
  go_wp2_with fail
  refine cS.out.mono ?_
  rintro e w1 ⟨v, rfl, hr1, hb1⟩
  have HP := Lib.hid hr1
  obtain ⟨pa, cpp, rfl, hcc, hcm⟩ := hr1.length
  have HB1 := Lib.hid hb1
  rw [HN.out]
  rw [HN.out] at HP hcc
  clear hr1 hb1 cS
  by_cases hn0 : n = 0
  · have hz : aboveL P = [] := by unfold aboveL; rw [HN.out, hn0]; rfl
    have HZ : RowKit.Hid (BL (.slice none 0 0) (aboveL P) w1) := by
      rw [hz]
      exact ⟨none, 0, rfl, Nat.le_refl _, Nat.zero_le _, fun _ => rfl, fun i hi => by cases hi⟩
    subst hn0
    clear hz
    go_wp2
    first | exact HQ.out _ _ HZ.out HB1.out | (go_ret; exact HQ.out _ _ HZ.out HB1.out)
  have t0 : ((n : Int) == 0) = false := by simp; omega
  have t0n : decide (n = 0) = false := decide_eq_false hn0
  obtain ⟨g, o, cap2, he, hg, c0⟩ := HP.out.at12 0 (by rw [HN.out]; omega)
  obtain ⟨ha, -, hcp⟩ := Value.slice.inj he
  subst ha
  subst hcp
  clear he
  have HCell : RowKit.Hid (∀ i, i < n → w1.cell? ⟨g, o + i, none⟩ = some (.string (S (P.getD i [])))) := by
    intro i hi
    obtain ⟨g2, o2, cap2, he, _, c⟩ := HP.out.at12 i (by rw [HN.out]; exact hi)
    obtain ⟨ha, -, -⟩ := Value.slice.inj he
    obtain ⟨rfl, rfl, -⟩ := Addr.mk.inj (Option.some.inj ha)
    exact c
  have i1 : (0 : Int) < (n : Int) := by omega
  have i1n : 0 < n := by omega
  have i2 : (1 : Int) ≤ (n : Int) := by omega
  have i3 : (n : Int) ≤ (cpp : Int) := by omega
  have hf := S_size (P.getD 0 [])
  have hff := glu_first P (by rw [HN.out]; omega)
  rw [Nat.add_zero] at c0
  rw [← hff] at hf
  obtain ⟨e0, he0⟩ : ∃ e, (gluX dd (P.take 1)).length = e := ⟨_, rfl⟩
  rw [he0] at hf
  have HE0 := Lib.hid he0
  have cG := Lib.hid (fun W (hb : Below w1.heap.size w1 W) => HG.out _ W (HP.out.after hb))
  obtain ⟨y, hy⟩ : ∃ y, gluX dd P = y := ⟨_, rfl⟩
  rw [hy] at cG
  clear hff he0 HG hn0
  generalize S (P.getD 0 []) = s0 at *
  obtain ⟨m, hm⟩ : ∃ m, n = m + 1 := ⟨n - 1, by omega⟩
  have HM := Lib.hid hm
  clear hm
  go_upto_region 4 with fail
  go_cut [4, 5] from 16 to 20 (fun v4 v5 wx => v4 = .string s0 ∧ (∃ aF lF cF, v5 = .slice aF lF cF ∧ m = lF ∧ lF ≤ cF ∧ (0 < m → aF = some ⟨g, o + 1, none⟩)) ∧ Below w1.heap.size w1 wx)
  case first =>
    by_cases hc1 : cpp = 1
    · obtain rfl : n = 1 := by omega
      subst hc1
      have hm0 : m = 0 := by have := HM.out; omega
      have HM0 := Lib.hid hm0
      clear hm0
      go_region
      go_wp2_with fail
      go_meet
      exact ⟨rfl, ⟨_, _, _, rfl, by (have := HM0.out; omega), by omega, fun h => by (have := HM0.out; omega)⟩, (Below.refl _ _).drew⟩
    · have hc2 : ¬ (1 : Int) = (cpp : Int) := by omega
      have hc3 : ¬ 1 = cpp := by omega
      go_region
      go_wp2_with fail
      go_meet
      exact ⟨rfl, ⟨_, _, _, rfl, by (have := HM.out; omega), by omega, fun h => rfl⟩, (Below.refl _ _).drew⟩
  case rest =>
    obtain ⟨rfl, ⟨aF, lF, cF, rfl, hlF, hcF, haF⟩, hwx⟩ := hcut
    subst hlF
    have HAF := Lib.hid haF
    have cG1 := Lib.hid (cG.out wc hwx)
    have B2 := Lib.hid hwx
    have hmn := HM.out
    have hm9 : m ≤ 10000 := by omega
    clear haF hwx cG i1 i1n i2 i3 c0 t0 t0n hmn
    go_wp2_with fail
    refine cG1.out.mono ?_
    rintro e w3 ⟨rfl, hb3⟩
    have B3 := Lib.hid (B2.out.trans (hb3.mono B2.out.size))
    have hmk := run_make_row' (P := Tryd.prog) 25 9 (.string ⟨#[]⟩) 16 Tryd.underlying25 infoString rfl .i64 .i64 m (by omega) (by omega)
    have h0 : RowS w3 (abvK P m 0) (w3.alloc (.cells (madeCells #[.string ⟨#[]⟩] m) 9)) := by
      refine ⟨⟨_, heap_alloc_new w3 _, ?_⟩, (Below.refl w3.heap.size w3).alloc (Nat.le_refl _) _⟩
      rw [toList_madeCells_one, abvK_zero]
      simp [strB, S]
    have H0 := Lib.hid h0
    have hys := S_size y
    have HGt := Lib.hid (fun k (hk : k + 1 ≤ n) => glu_begin P (k + 1) (by rw [HN.out]; exact hk))
    rw [hy] at HGt hgl2
    have HGL := Lib.hid hgl2
    have HYX := Lib.hid (fun a b => S_extract y a b)
    have HYs := Lib.hid hys
    clear hb3 cG1 h0 hys B2 hy hgl2
    generalize S y = sy at *
    go_wp2
    go_loopw [8, 30] (fun v8 v30 wr => ∃ k e : Nat, k ≤ m ∧ v8 = .int .i64 (e : Int) ∧ v30 = .int .i64 (k : Int) ∧ RowKit.Hid ((gluX dd (P.take (k + 1))).length = e) ∧ RowKit.Hid (RowS w3 (abvK P m k) wr)) (fun _ v30 _ => m - (intOf v30).toNat)
    case atStart => exact ⟨0, e0, Nat.zero_le _, by first | rfl | (rw [← hf]) | go_num, rfl, HE0, H0⟩
    case round =>
      obtain ⟨k, e, hk, rfl, rfl, HE, HR⟩ := hrel
      clear H0
      by_cases hkm : k < m
      · obtain ⟨q, hq⟩ : ∃ q, q + k + 1 = m := ⟨m - 1 - k, by omega⟩
        obtain ⟨m1, hm1⟩ : ∃ m1, m = m1 + 1 := ⟨m - 1, by omega⟩
        have hmn := HM.out
        have i1 : (0 : Int) ≤ (k : Int) := by omega
        have i2 : (k : Int) < (m : Int) := by omega
        have i3 : (m : Int) - 1 = (m1 : Int) := by omega
        have i4 : (m1 : Int) - (k : Int) = (q : Int) := by omega
        have i7 : (0 : Int) ≤ (q : Int) := by omega
        have i8 : (q : Int) < (m : Int) := by omega
        have i9 : q < m := by omega
        obtain rfl := HAF.out (by omega)
        have hBw := B3.out.trans (HR.out.bel.mono B3.out.size)
        have c1 : wr.cell? ⟨g, o + 1 + k, none⟩ = some (.string (S (P.getD (k + 1) []))) := by
          rw [show o + 1 + k = o + (k + 1) by omega]
          exact (hBw.cell (p := ⟨g, o + (k + 1), none⟩) hg).trans (HCell.out (k + 1) (by omega))
        have hnx := glu_next P k (by rw [HN.out]; omega)
        rw [HE.out] at hnx
        have hxs := S_size (P.getD (k + 1) [])
        obtain ⟨p, hp⟩ : ∃ p, P.getD (k + 1) [] = p := ⟨_, rfl⟩
        have hb4 := (HGt.out (k + 1) (by omega)).2
        rw [show k + 1 + 1 = k + 2 from rfl, hnx] at hb4
        have hb5 := Nat.le_trans hb4 HGL.out
        rw [hp] at c1 hnx hxs hb5
        obtain ⟨lp, hlp⟩ : ∃ n, p.length = n := ⟨_, rfl⟩
        rw [hlp] at hnx hxs hb5
        obtain ⟨hg1, hg2⟩ := HGt.out k (by omega)
        rw [HE.out] at hg1 hg2
        have hex : sy.extract 0 e = S (gluX dd (P.take (k + 1))) := by
          rw [HYX.out, List.drop_zero, hg1]
        have hlen := abvK_len P m k
        have hcell := HR.out.cell q (by rw [hlen]; exact i9)
        have hfz := HR.out.fz q
        have hset := HR.out.set q (gluX dd (P.take (k + 1)))
        rw [abvK_set P m k q hq] at hset
        have HS := Lib.hid hset
        have HNx := Lib.hid hnx
        obtain ⟨z, hz⟩ : ∃ z, gluX dd (P.take (k + 1)) = z := ⟨_, rfl⟩
        rw [hz] at hex HS
        obtain ⟨ny, hny⟩ : ∃ n, y.length = n := ⟨_, rfl⟩
        have hys := HYs.out
        rw [hny] at hg2 hys
        have j1 : (0 : Int) ≤ (e : Int) := by omega
        have j2 : (e : Int) ≤ (ny : Int) := by omega
        have hb3 : ny ≤ 2000000000 := by rw [← hny]; exact HGL.out
        obtain ⟨d, hd⟩ : ∃ d, 2 + lp = d := ⟨_, rfl⟩
        rw [hd] at HNx hb5
        obtain ⟨e2, he2⟩ : ∃ e2, e + d = e2 := ⟨_, rfl⟩
        rw [he2] at HNx hb5
        have hb6 : d ≤ 2000000000 := by omega
        have hb7 : lp ≤ 2000000000 := by omega
        have j3 : (2 : Int) + (lp : Int) = (d : Int) := by omega
        have j5 : (e : Int) + (d : Int) = (e2 : Int) := by omega
        clear hp hlp hz hny hg1 hb4 hd he2 hset hnx hlen hBw hm1 hq hmn HR HE
        generalize S p = sp at *
        generalize S z = sz at *
        go_wp2
        go_roundw
        case rel => exact ⟨k + 1, e2, by omega, by first | rfl | go_num, by go_num, HNx.out, HS.out⟩
        case measure => simp [intOf]; omega
      · obtain rfl : k = m := by omega
        have hr := HR.out
        rw [abvK_all P k (by rw [HN.out]; exact HM.out)] at hr
        have hb := (hr.sr (n := k) (by rw [← abvK_all P k (by rw [HN.out]; exact HM.out), abvK_len]) (by unfold maxLen; omega)).bl
        have HS := Lib.hid hb
        have HBw := Lib.hid (HB1.out.trans ((B3.out.trans (hr.bel.mono B3.out.size)).mono HB1.out.size))
        clear hr hb
        go_wp2
        first | exact HQ.out _ _ HS.out HBw.out | (go_ret; exact HQ.out _ _ HS.out HBw.out)
end

end Go.Proofs.YtjfbbpppdlaapaaDoor
