/- Merged: R15C, R15D, FL, RegInv. -/
import Derived.Test.YtfjfpefpdlecbaaGreatDoorQ07
import Derived.Test.YtfjfpefpdlecbaaGreatDoorQ13
import Derived.BigQuiet
import Derived.Test.YtfjfpefpdlecbaaGreatDoorQ03
import Derived.Laws.AppendOwn
import Derived.OwnWalk
import Derived.Laws.AppendOwnNone
import Derived.Test.YtfjfpefpdlecbaaGreatDoorProg
import Derived.Orders
import Derived.Below
import Derived.WalkKit
import Derived.Lib.Hide
namespace Go.Proofs.YtfjfpefpdlecbaaGreatDoor

section
open Go.RowKit Go.PlainAid
theorem S_tl15 (l : List UInt8) : (S l).toList = l := by rw [ByteArray.toList_eq]; rfl
theorem less_S (a b : List UInt8) : Op.bytesLess (S a).toList (S b).toList = ltT a b := by rw [S_tl15, S_tl15]; rfl
theorem eq_S15 (a b : List UInt8) : ((S a).toList == (S b).toList) = decide (a = b) := by
  rw [S_tl15, S_tl15]
  exact Bool.eq_iff_iff.2 (by simp)
/-- append of a whole slice of texts to a row of the call's own. -/
theorem append_srs {ops : Array Oper} {rest : List Oper} {o : Oper} {a : Act} {Q : Exit → Act → World → Prop} (w : World) (hgd : o.guard = none) (s x : Operand)
    (ho : o.op = .call { callee := .builtin .append, args := #[s, x], argTypes := #[36, 36] })
    (B : Nat) (v : Value) (L : List (List UInt8)) (hs : a.eval s = v) (h : SR B v L w) (ad : Addr) (m c : Nat) (M : List (List UInt8)) (hx : a.eval x = .slice (some ad) m c) (hm : M.length = m)
    (hM : ∀ j u, (M.map strB)[j]? = some u → w.cell? (ad.add j) = some u) (hz : (L.length + m) * 16 ≤ 140737488355328) (hB : B ≤ w.heap.size)
    (N : Nat) (W1 : World) (hNB : N ≤ B) (hb : Below N W1 w)
    (hk : ∀ v' w', SR B v' (L ++ M) w' → Below N W1 w' → B ≤ w'.heap.size → wpList Tryz.prog ops Q rest (a.put o.dst v') w') : wpList Tryz.prog ops Q (o :: rest) a w := by
  obtain ⟨i0, hi, hz0, hz1, hz2⟩ := info_string
  refine wpList_append_own _ hgd s x 36 ho B 9 i0 (.string ⟨#[]⟩) 1 16 Tryz.underlying36 hi hz0 hz1 hz2 rfl (by decide) v L.length _ hs h.row ad m c (M.map strB) hx (by rw [List.length_map, hm, Nat.mul_one]) hM (by intro u hu; obtain ⟨y, -, rfl⟩ := List.mem_map.1 hu; rfl) (by unfold maxLen; omega) hz hB ?_
  intro v2 w2 hown2 hg2 hn2
  refine hk v2 w2 ⟨by rw [List.length_append, List.map_append, hm]; exact hown2, fun e => h.nn (hn2.1 e).1⟩ ?_ (Nat.le_trans hB hg2.size)
  exact hb.grown hg2 (Nat.le_trans hNB hB) (fun j hj => Nat.le_trans hNB (h.row.lt j hj).1)
theorem map_at {M : List (List UInt8)} {j : Nat} {u : Value} (h : (M.map strB)[j]? = some u) : j < M.length ∧ u = strB (M.getD j []) := by
  obtain ⟨y, hy, rfl⟩ := (List.getElem?_map .. ▸ h : Option.map strB M[j]? = some u) |> Option.map_eq_some_iff.1
  obtain ⟨hj, e⟩ := List.getElem?_eq_some_iff.1 hy
  exact ⟨hj, by rw [List.getD_eq_getElem?_getD, hy]; rfl⟩
theorem add_at15 (g o j : Nat) : (⟨g, o, none⟩ : Addr).add j = ⟨g, o + j, none⟩ := by
  cases j with
  | zero => simp [Addr.add]
  | succ j => simp [Addr.add]
theorem take_at {L : List (List UInt8)} {k j : Nat} (h : j < k) : (L.take k).getD j [] = L.getD j [] := by
  rw [List.getD_eq_getElem?_getD, List.getD_eq_getElem?_getD, List.getElem?_take_of_lt h]
theorem drop_at {L : List (List UInt8)} {k j : Nat} : (L.drop k).getD j [] = L.getD (k + j) [] := by
  rw [List.getD_eq_getElem?_getD, List.getD_eq_getElem?_getD, List.getElem?_drop]
theorem append_sr15 {ops : Array Oper} {rest : List Oper} {o : Oper} {a : Act} {Q : Exit → Act → World → Prop} (w : World) (hgd : o.guard = none) (s x : Operand)
    (ho : o.op = .call { callee := .builtin .append, args := #[s, x], argTypes := #[36, 36] })
    (B : Nat) (v : Value) (L : List (List UInt8)) (y : List UInt8) (hs : a.eval s = v) (h : SR B v L w) (hx : a.eval x = .slice (some ⟨w.heap.size, 0, none⟩) 1 1) (hz : (L.length + 1) * 16 ≤ 140737488355328) (hB : B ≤ w.heap.size)
    (N : Nat) (W1 : World) (hNB : N ≤ B) (hb : Below N W1 w)
    (hk : ∀ v' w', SR B v' (L ++ [y]) w' → Below N W1 w' → B ≤ w'.heap.size → wpList Tryz.prog ops Q rest (a.put o.dst v') w') : wpList Tryz.prog ops Q (o :: rest) a (w.alloc (.cells #[strB y] 9)) :=
  append_srs (w.alloc (.cells #[strB y] 9)) hgd s x ho B v L hs ⟨h.row.alloc _, h.nn⟩ ⟨w.heap.size, 0, none⟩ 1 1 [y] hx rfl (cells_one w (strB y) _) hz (Nat.le_trans hB (by simp)) N W1 hNB (hb.alloc (Nat.le_trans hNB hB) _) hk

set_option maxHeartbeats 16000000 in
set_option maxRecDepth 100000 in
theorem refPut15_any (B : Nat) (v : Value) (L : List (List UInt8)) (s : List UInt8) (w : World) (hB : B ≤ w.heap.size) (hv : SR B v L w) (hz : L.length ≤ 1000000) (hA : AscO ltT L) :
    Calls Tryz.prog 41 #[v, .string (S s)] w fun e w' => ∃ v', e = .returned v' ∧ SR B v' (putO ltT L s) w' ∧ Below w.heap.size w w' := by
  obtain ⟨Q, hQ⟩ : ∃ Q, (fun (e : Ending) (w' : World) => ∃ v', e = .returned v' ∧ SR B v' (putO ltT L s) w' ∧ Below w.heap.size w w') = Q := ⟨_, rfl⟩
  rw [hQ]
  have HStay : RowKit.Hid (s ∈ L → Q (.returned v) w) := by
    intro h
    rw [← hQ]
    exact ⟨v, rfl, by unfold putO; rw [if_pos h]; exact hv, Below.refl _ _⟩
  have HNew : RowKit.Hid (∀ k, plcO ltT L s = k → s ∉ L → ∀ v' w', SR w.heap.size v' (L.take k ++ s :: L.drop k) w' → Below w.heap.size w w' → Q (.returned v') w') := by
    intro k hk h v' w' h1 h2
    rw [← hQ]
    refine ⟨v', rfl, ?_, h2⟩
    unfold putO
    rw [if_neg h]
    unfold insO
    rw [hk]
    exact h1.mono hB
  have HPlc := Lib.hid (fun k h1 h2 => place_at ltT s L k h1 h2)
  have HAt := Lib.hid (at_place strictT s L hA)
  obtain ⟨g, cap, rfl, hBg, hg, hc, hcm, hcell⟩ := hv.open
  obtain ⟨n, hn⟩ : ∃ n, L.length = n := ⟨_, rfl⟩
  have HN := Lib.hid hn
  rw [hn] at hc hz hcell HStay ⊢
  have HCell := Lib.hid (fun (W : World) (hb : Below w.heap.size w W) (i : Nat) (hi : i < n) => (hb.cell (p := ⟨g, i, none⟩) hg).trans (hcell i hi))
  have HE0 := Lib.hid (SR.empty w)
  have HB0 := Lib.hid ((Below.refl w.heap.size w).alloc (Nat.le_refl _) (.cells #[] 9))
  have HS := Lib.hid (fun i => And.intro (less_S (L.getD i []) s) (eq_S15 (L.getD i []) s))
  have HT := Lib.hid (fun (k : Nat) (hk : k ≤ n) (W : World) (hb : Below w.heap.size w W) (j : Nat) (u : Value) (h : ((L.take k).map strB)[j]? = some u) => show W.cell? ((⟨g, 0, none⟩ : Addr).add j) = some u from by
    obtain ⟨hj, rfl⟩ := map_at h
    rw [List.length_take] at hj
    rw [take_at (by omega)]
    have := HCell.out W hb j (by omega)
    rw [add_at15, Nat.zero_add]
    exact this)
  have HD := Lib.hid (fun (k : Nat) (W : World) (hb : Below w.heap.size w W) (j : Nat) (u : Value) (h : ((L.drop k).map strB)[j]? = some u) => show W.cell? ((⟨g, k, none⟩ : Addr).add j) = some u from by
    obtain ⟨hj, rfl⟩ := map_at h
    rw [List.length_drop, HN.out] at hj
    rw [drop_at, add_at15]
    exact HCell.out W hb (k + j) (by omega))
  have HLt := Lib.hid (fun (k : Nat) (hk : k ≤ n) => show (L.take k).length = k from by rw [List.length_take, HN.out]; omega)
  have HLd := Lib.hid (fun (k : Nat) => show (L.drop k).length = n - k from by rw [List.length_drop, HN.out])
  unfold maxLen at hcm
  clear hQ hn hA hv hcell hBg hB
  go_enter Tryz.func41, Tryz.ntmps41
  go_wp2
  go_loopw [5] (fun s5 wr => ∃ k : Nat, s5 = .int .i64 (k : Int) ∧ k ≤ n ∧ RowKit.Hid (∀ j, j < k → ltT (L.getD j []) s = true) ∧ w = wr) (fun s5 _ => n - (intOf s5).toNat)
  case atStart => exact ⟨0, rfl, Nat.zero_le _, (fun j hj => by omega), rfl⟩
  case round =>
    obtain ⟨k, rfl, hk, HJ, rfl⟩ := hrel
    have i1 : (0 : Int) ≤ (k : Int) := by omega
    have HJ1 : RowKit.Hid (∀ j, j < k → ∃ y, L[j]? = some y ∧ ltT y s = true) := fun j hj => by
      have hjn : j < L.length := by rw [HN.out]; omega
      refine ⟨L.getD j [], ?_, HJ.out j hj⟩
      rw [List.getD_eq_getElem?_getD, List.getElem?_eq_getElem hjn]
      rfl
    by_cases hkn : k < n
    · have i2 : (k : Int) < (n : Int) := by omega
      have i2' : k < n := hkn
      have hc1 := HCell.out w (Below.refl _ _) k hkn
      obtain ⟨b1, b2⟩ := HS.out k
      have HK : RowKit.Hid (L[k]? = some (L.getD k [])) := by
        unfold RowKit.Hid
        rw [List.getD_eq_getElem?_getD, List.getElem?_eq_getElem (by rw [HN.out]; exact hkn)]
        rfl
      unfold strB at hc1
      obtain ⟨y, hy⟩ : ∃ y, L.getD k [] = y := ⟨_, rfl⟩
      rw [hy] at hc1 b1 b2 HK
      by_cases hlt : ltT y s = true
      · rw [hlt] at b1
        have HJ2 : RowKit.Hid (∀ j, j < k + 1 → ltT (L.getD j []) s = true) := by
          intro j hj
          rcases Nat.lt_or_ge j k with h | h
          · exact HJ.out j h
          · rw [show j = k by omega, hy]; exact hlt
        clear hy hlt b2 HJ HJ1 HK
        generalize S y = sy at *
        generalize S s = ss at *
        go_wp2
        go_roundw
        case rel => exact ⟨k + 1, by go_num, by omega, HJ2.out, by first | rfl | trivial⟩
        case measure => simp [intOf]; omega
      · have hlf : ltT y s = false := by simpa using hlt
        rw [hlf] at b1
        have hP : plcO ltT L s = k := by
          rw [HPlc.out k HJ1.out (fun z hz => by rw [HK.out] at hz; rw [← Option.some.inj hz]; exact hlf), HN.out]
          omega
        have HP := Lib.hid hP
        have HIn : RowKit.Hid (s ∈ L ↔ y = s) := by
          unfold RowKit.Hid
          rw [HAt.out, hP, HK.out]
          exact ⟨fun h => Option.some.inj h, fun h => by rw [h]⟩
        clear hy hlt HJ HJ1 HK hP hlf HPlc HAt
        by_cases hys : y = s
        · have HG := Lib.hid (HStay.out (HIn.out.2 hys))
          rw [decide_eq_true hys] at b2
          clear hys HIn HStay HNew
          generalize S y = sy at *
          generalize S s = ss at *
          go_wp2
          first | exact HG.out | (go_ret; exact HG.out)
        · have HNe := Lib.hid (HNew.out k HP.out (fun g => hys (HIn.out.1 g)))
          rw [decide_eq_false hys] at b2
          clear hys HIn HStay HNew HP
          generalize S y = sy at *
          obtain ⟨hl1, hl2⟩ : k ≤ n ∧ ¬ cap = k := ⟨by omega, by omega⟩
          have HLk := Lib.hid (HLt.out k hl1)
          have hck : k ≤ cap := by omega
          have ht1 := Lib.hid (HT.out k hl1 _ HB0.out)
          have HDk := Lib.hid (HD.out k)
          have HLdk := Lib.hid (HLd.out k)
          have HBz := Lib.hid hz
          clear HT HD HLt HLd HS HCell
          generalize hss : S s = ss at *
          have HSS := Lib.hid hss
          clear hss
          go_wp2_with (at_builtin; refine append_srs _ rfl _ _ rfl w.heap.size _ [] rfl HE0.out ⟨g, 0, none⟩ k cap (L.take k) rfl HLk.out ht1.out (by have := HBz.out; simp only [List.length_nil]; omega) (by simp) w.heap.size w (Nat.le_refl _) HB0.out ?_)
          intro v1 w1 hs1 hb1 hB1
          have HS1 := Lib.hid hs1
          have HB1 := Lib.hid hb1
          have HG1 := Lib.hid hB1
          clear hs1 hb1 hB1 ht1 HE0 HB0
          rw [← HSS.out]
          go_wp2_with (at_builtin; refine append_sr15 _ rfl _ _ rfl w.heap.size v1 (L.take k) s rfl HS1.out rfl (by rw [HLk.out]; have := HBz.out; omega) HG1.out w.heap.size w (Nat.le_refl _) HB1.out ?_)
          intro v2 w2 hs2 hb2 hB2
          have HS2 := Lib.hid hs2
          have HB2 := Lib.hid hb2
          have HG2 := Lib.hid hB2
          clear hs2 hb2 hB2 HS1 HB1 HG1
          go_wp2_with (at_builtin; refine append_srs _ rfl _ _ rfl w.heap.size v2 (L.take k ++ [s]) rfl HS2.out ⟨g, k, none⟩ (n - k) (cap - k) (L.drop k) rfl HLdk.out (HDk.out _ HB2.out) (by rw [List.length_append, HLk.out]; have := HBz.out; simp only [List.length_cons, List.length_nil]; omega) HG2.out w.heap.size w (Nat.le_refl _) HB2.out ?_)
          intro v3 w3 hs3 hb3 hB3
          have HG := Lib.hid (HNe.out v3 w3 hs3 hb3)
          clear hs3 hb3 hB3 HS2 HB2 HG2 HNe
          go_wp2
          first | exact HG.out | (go_ret; exact HG.out)
    · obtain rfl : k = n := by omega
      have hnone : L[k]? = none := by rw [List.getElem?_eq_none_iff, HN.out]; exact Nat.le_refl _
      have hP : plcO ltT L s = k := by
        rw [HPlc.out k HJ1.out (fun z hz => by rw [hnone] at hz; cases hz), HN.out]
        omega
      have hdr : L.drop k = [] := List.drop_of_length_le (by rw [HN.out]; exact Nat.le_refl _)
      have HNe : RowKit.Hid (∀ v' w', SR w.heap.size v' (L.take k ++ [s]) w' → Below w.heap.size w w' → Q (.returned v') w') := by
        have := HNew.out k hP (fun g => by have := HAt.out.1 g; rw [hP, hnone] at this; cases this)
        rw [hdr] at this
        exact this
      have HLk := Lib.hid (HLt.out k (Nat.le_refl _))
      have ht1 := Lib.hid (HT.out k (Nat.le_refl _) _ HB0.out)
      have HBz := Lib.hid hz
      have HNil : RowKit.Hid (∀ (W : World) (ad : Addr) (j : Nat) (u : Value), (([] : List (List UInt8)).map strB)[j]? = some u → W.cell? (ad.add j) = some u) := fun W ad j u h => by simp at h
      clear HT HD HLt HLd HS HCell HNew HStay HJ HJ1 HPlc HAt hdr hP hnone
      generalize hss : S s = ss at *
      have HSS := Lib.hid hss
      clear hss
      by_cases hck : cap = k
      all_goals
        go_wp2_with (at_builtin; refine append_srs _ rfl _ _ rfl w.heap.size _ [] rfl HE0.out ⟨g, 0, none⟩ k cap (L.take k) (by first | rfl | (rw [hck]; rfl) | (subst hck; rfl)) HLk.out ht1.out (by have := HBz.out; simp only [List.length_nil]; omega) (by simp) w.heap.size w (Nat.le_refl _) HB0.out ?_)
        intro v1 w1 hs1 hb1 hB1
        have HS1 := Lib.hid hs1
        have HB1 := Lib.hid hb1
        have HG1 := Lib.hid hB1
        clear hs1 hb1 hB1
        rw [← HSS.out]
        go_wp2_with (at_builtin; refine append_sr15 _ rfl _ _ rfl w.heap.size v1 (L.take k) s rfl HS1.out rfl (by rw [HLk.out]; have := HBz.out; omega) HG1.out w.heap.size w (Nat.le_refl _) HB1.out ?_)
        intro v2 w2 hs2 hb2 hB2
        have HS2 := Lib.hid hs2
        have HB2 := Lib.hid hb2
        have HG2 := Lib.hid hB2
        clear hs2 hb2 hB2 HS1 HB1 HG1
        go_wp2_with (at_builtin; refine append_srs _ rfl _ _ rfl w.heap.size v2 (L.take k ++ [s]) rfl HS2.out _ 0 _ [] rfl rfl (HNil.out _ _) (by rw [List.length_append, HLk.out]; have := HBz.out; simp only [List.length_cons, List.length_nil]; omega) HG2.out w.heap.size w (Nat.le_refl _) HB2.out ?_)
        intro v3 w3 hs3 hb3 hB3
        have HG := Lib.hid (HNe.out v3 w3 (by simpa using hs3) hb3)
        clear hs3 hb3 hB3 HS2 HB2 HG2
        go_wp2
        first | exact HG.out | (go_ret; exact HG.out)
end

section
open Go.RowKit Go.PlainAid
theorem BL.opened {v : Value} {A : List (List UInt8)} {w : World} (h : BL v A w) : ∃ a cap g o, v = .slice a A.length cap ∧ A.length ≤ cap ∧ cap ≤ maxLen ∧ (0 < A.length → a = some ⟨g, o, none⟩) ∧ ∀ W, Below w.heap.size w W → ∀ i, i < A.length → W.cell? ⟨g, o + i, none⟩ = some (strB (A.getD i [])) := by
  obtain ⟨a, cap, rfl, hc, hm, hn, hx⟩ := h
  by_cases h0 : 0 < A.length
  · obtain ⟨g, o, rfl, -, -⟩ := hx 0 h0
    refine ⟨_, cap, g, o, rfl, hc, hm, fun _ => rfl, fun W hb i hi => ?_⟩
    obtain ⟨g', o', e, hg', hcell⟩ := hx i hi
    obtain ⟨rfl, rfl, -⟩ := Addr.mk.inj (Option.some.inj e)
    exact (hb.cell (p := ⟨_, _, none⟩) hg').trans hcell
  · exact ⟨a, cap, 0, 0, rfl, hc, hm, fun h => absurd h h0, fun W hb i hi => by omega⟩
theorem below_drewN15 {B : Nat} {a w : World} (h : Below B a w) (n : Nat) : Below B a (w.drewN n) := ⟨h.os, h.tape, h.output, h.size, h.block⟩

set_option maxHeartbeats 16000000 in
set_option maxRecDepth 100000 in
theorem refMeet_any (va vb : Value) (A B : List (List UInt8)) (w : World) (hA : BL va A w) (hB : BL vb B w) (r : Bool) (hr : meetL A B = r) :
    Calls Tryz.prog 44 #[va, vb] w fun e w' => e = .returned (.bool r) ∧ Below w.heap.size w w' := by
  obtain ⟨a, ca, g, o, rfl, hca, hma, hga, hxa⟩ := hA.opened
  obtain ⟨b, cb2, g2, o2, rfl, hcb, hmb, hgb, hxb⟩ := hB.opened
  unfold maxLen at hma hmb
  have HYes := Lib.hid (fun i k (hi : i < A.length) (hk : k < B.length) (e : A.getD i [] = B.getD k []) => show r = true from by
    rw [← hr, meetL_iff]
    refine ⟨A.getD i [], ?_, ?_⟩
    · rw [List.getD_eq_getElem?_getD, List.getElem?_eq_getElem hi]
      exact List.getElem_mem _
    · rw [e, List.getD_eq_getElem?_getD, List.getElem?_eq_getElem hk]
      exact List.getElem_mem _)
  have HNo := Lib.hid (fun (h : ∀ i, i < A.length → ∀ k, k < B.length → A.getD i [] ≠ B.getD k []) => show r = false from by
    rw [← hr, Bool.eq_false_iff]
    intro g
    obtain ⟨x, h1, h2⟩ := (meetL_iff A B).1 g
    obtain ⟨i, hi, rfl⟩ := List.getElem_of_mem h1
    obtain ⟨k, hk, e⟩ := List.getElem_of_mem h2
    refine h i hi k hk ?_
    rw [List.getD_eq_getElem?_getD, List.getElem?_eq_getElem hi, List.getD_eq_getElem?_getD, List.getElem?_eq_getElem hk]
    exact e.symm)
  have HEq := Lib.hid (fun i k => eq_S15 (A.getD i []) (B.getD k []))
  generalize hn : A.length = n at *
  generalize hm : B.length = m at *
  have HXA := Lib.hid hxa
  have HXB := Lib.hid hxb
  have HR := Lib.hid (Below.refl w.heap.size w)
  clear hn hm hA hB hr hxa hxb
  go_enter Tryz.func44, Tryz.ntmps44
  go_wp2
  go_loopw [5, 6] (fun s5 s6 wr => ∃ i : Nat, s5 = .int .i64 (i : Int) ∧ i ≤ n ∧ RowKit.Hid (∀ a, a < i → ∀ k, k < m → A.getD a [] ≠ B.getD k []) ∧ RowKit.Hid (Below w.heap.size w wr)) (fun s5 _ _ => n - (intOf s5).toNat)
  case atStart => exact ⟨0, rfl, Nat.zero_le _, (fun a ha => by omega), HR.out⟩
  case round =>
    obtain ⟨i, rfl, hi, HI, HB⟩ := hrel
    clear HR
    have i1 : (0 : Int) ≤ (i : Int) := by omega
    by_cases hin : i < n
    · have i2 : (i : Int) < (n : Int) := by omega
      obtain rfl := hga (by omega)
      go_wp2
      go_loopw [6] (fun s6 wr => ∃ k : Nat, s6 = .int .i64 (k : Int) ∧ k ≤ m ∧ RowKit.Hid (∀ j, j < k → A.getD i [] ≠ B.getD j []) ∧ RowKit.Hid (Below w.heap.size w wr)) (fun s6 _ => m - (intOf s6).toNat)
      case atStart => exact ⟨0, rfl, Nat.zero_le _, (fun a ha => by omega), HB.out⟩
      case round =>
        obtain ⟨k, rfl, hk, HK, HBk⟩ := hrel
        clear HB
        have k1 : (0 : Int) ≤ (k : Int) := by omega
        by_cases hkm : k < m
        · have k2 : (k : Int) < (m : Int) := by omega
          obtain rfl := hgb (by omega)
          have c1 := HXA.out wr HBk.out i hin
          have c2 := HXB.out wr HBk.out k hkm
          have b1 := HEq.out i k
          have HBd := Lib.hid (fun d => below_drewN15 HBk.out d)
          unfold strB at c1 c2
          by_cases hxy : A.getD i [] = B.getD k []
          · have hr := HYes.out i k hin hkm hxy
            subst hr
            rw [decide_eq_true hxy] at b1
            clear hxy HK HBk HYes HNo
            generalize S (A.getD i []) = sx at *
            generalize S (B.getD k []) = sy at *
            go_wp2_with fail
            go_quiet (fail)
            go_wp2
            first | exact ⟨rfl, HBd.out _⟩ | (go_ret; exact ⟨rfl, HBd.out _⟩)
          · have HK2 : RowKit.Hid (∀ j, j < k + 1 → A.getD i [] ≠ B.getD j []) := by
              intro j hj
              rcases Nat.lt_or_ge j k with h | h
              · exact HK.out j h
              · rw [show j = k by omega]; exact hxy
            rw [decide_eq_false hxy] at b1
            clear hxy HK HBk HYes HNo
            generalize S (A.getD i []) = sx at *
            generalize S (B.getD k []) = sy at *
            go_wp2_with fail
            go_quiet (fail)
            go_wp2
            go_roundw
            case rel => exact ⟨k + 1, by go_num, by omega, HK2.out, HBd.out _⟩
            case measure => simp [intOf]; omega
        · obtain rfl : k = m := by omega
          have HI2 : RowKit.Hid (∀ a, a < i + 1 → ∀ j, j < k → A.getD a [] ≠ B.getD j []) := by
            intro a ha
            rcases Nat.lt_or_ge a i with h | h
            · exact HI.out a h
            · rw [show a = i by omega]; exact HK.out
          clear HK HI
          go_wp2
          go_roundw
          case rel => exact ⟨i + 1, by go_num, by omega, HI2.out, HBk.out⟩
          case measure => simp [intOf]; omega
    · obtain rfl : i = n := by omega
      have hr := HNo.out HI.out
      subst hr
      clear HI HYes HNo
      go_wp2
      first | exact ⟨rfl, HB.out⟩ | (go_ret; exact ⟨rfl, HB.out⟩)
end

section
open Go.RowKit
/-- A slice of these fields. -/
def FL (v : Value) (L : List Fld) (w : World) : Prop :=
  ∃ a cap, v = .slice a L.length cap ∧ L.length ≤ cap ∧ cap ≤ maxLen ∧ (a = none → cap = 0) ∧ ∀ i, i < L.length → ∃ g o u, a = some ⟨g, o, none⟩ ∧ g < w.heap.size ∧
    w.cell? ⟨g, o + i * 4, none⟩ = some (.string (S (L.getD i fd0).tag)) ∧ w.cell? ⟨g, o + i * 4 + 1, none⟩ = some (.string (S (L.getD i fd0).ind)) ∧
    w.cell? ⟨g, o + i * 4 + 2, none⟩ = some u ∧ w.cell? ⟨g, o + i * 4 + 3, none⟩ = some (.int .i64 (L.getD i fd0).auth) ∧ QL u (L.getD i fd0).subs w
theorem FL.after {v : Value} {L : List Fld} {w w' : World} (h : FL v L w) (hb : Below w.heap.size w w') : FL v L w' := by
  obtain ⟨a, cap, rfl, hc, hm, hn, hx⟩ := h
  refine ⟨a, cap, rfl, hc, hm, hn, fun i hi => ?_⟩
  obtain ⟨g, o, u, rfl, hg, h0, h1, h2, h3, hq⟩ := hx i hi
  exact ⟨g, o, u, rfl, Nat.lt_of_lt_of_le hg hb.size, (hb.cell (p := ⟨g, o + i * 4, none⟩) hg).trans h0, (hb.cell (p := ⟨g, o + i * 4 + 1, none⟩) hg).trans h1,
    (hb.cell (p := ⟨g, o + i * 4 + 2, none⟩) hg).trans h2, (hb.cell (p := ⟨g, o + i * 4 + 3, none⟩) hg).trans h3, hq.after hb⟩
theorem FL.length {v : Value} {L : List Fld} {w : World} (h : FL v L w) : ∃ a cap, v = .slice a L.length cap ∧ L.length ≤ cap ∧ cap ≤ maxLen := by
  obtain ⟨a, cap, h1, h2, h3, _⟩ := h
  exact ⟨a, cap, h1, h2, h3⟩
/-- What lies at one field's place. -/
theorem FL.at {v : Value} {L : List Fld} {w : World} (h : FL v L w) (k : Nat) (hk : k < L.length) : ∃ g o cap u, v = .slice (some ⟨g, o, none⟩) L.length cap ∧ g < w.heap.size ∧
    w.cell? ⟨g, o + k * 4, none⟩ = some (.string (S (L.getD k fd0).tag)) ∧ w.cell? ⟨g, o + k * 4 + 1, none⟩ = some (.string (S (L.getD k fd0).ind)) ∧
    w.cell? ⟨g, o + k * 4 + 2, none⟩ = some u ∧ w.cell? ⟨g, o + k * 4 + 3, none⟩ = some (.int .i64 (L.getD k fd0).auth) ∧ QL u (L.getD k fd0).subs w := by
  obtain ⟨a, cap, rfl, hc, hm, hn, hx⟩ := h
  obtain ⟨g, o, u, rfl, hh⟩ := hx k hk
  exact ⟨g, o, cap, u, rfl, hh⟩
/-- A record. -/
def RV (r : Rec) (u : Value) : Value := .agg #[.int .i64 r.id, .int .i64 r.ver, .int .i64 r.kind, .string (S r.lang), u]

/-! Rows of the call's own. -/
def encF (f : Fld) (u : Value) : List Value := [.string (S f.tag), .string (S f.ind), u, .int .i64 f.auth]
def cellsF : List Fld → List Value → List Value
  | f :: t, u :: us => encF f u ++ cellsF t us
  | _, _ => []
theorem cellsF_snoc : ∀ (L : List Fld) (us : List Value) (f : Fld) (u : Value), us.length = L.length → cellsF (L ++ [f]) (us ++ [u]) = cellsF L us ++ encF f u
  | [], [], f, u, _ => by simp [cellsF]
  | a :: s, x :: xs, f, u, h => by
    have := cellsF_snoc s xs f u (by simpa using h)
    simp only [List.cons_append, cellsF, this, List.append_assoc]
theorem cellsF_app : ∀ (L : List Fld) (us : List Value) (M : List Fld) (vs : List Value), us.length = L.length → cellsF (L ++ M) (us ++ vs) = cellsF L us ++ cellsF M vs
  | [], [], M, vs, _ => by simp [cellsF]
  | a :: s, x :: xs, M, vs, h => by
    have := cellsF_app s xs M vs (by simpa using h)
    simp only [List.cons_append, cellsF, this, List.append_assoc]
theorem cellsF_at : ∀ (L : List Fld) (us : List Value) (i : Nat), us.length = L.length → i < L.length → (cellsF L us)[i * 4]? = some (.string (S (L.getD i fd0).tag)) ∧ (cellsF L us)[i * 4 + 1]? = some (.string (S (L.getD i fd0).ind)) ∧
    (cellsF L us)[i * 4 + 2]? = some (us.getD i .nilIface) ∧ (cellsF L us)[i * 4 + 3]? = some (.int .i64 (L.getD i fd0).auth)
  | [], _, _, _, h => by cases h
  | a :: s, x :: xs, 0, _, _ => ⟨rfl, rfl, rfl, rfl⟩
  | a :: s, x :: xs, i + 1, hl, h => by
    have := cellsF_at s xs i (by simpa using hl) (by simpa using h)
    have e : cellsF (a :: s) (x :: xs) = .string (S a.tag) :: .string (S a.ind) :: x :: .int .i64 a.auth :: cellsF s xs := rfl
    rw [e, show (i + 1) * 4 = i * 4 + 1 + 1 + 1 + 1 by omega]
    simp only [List.getElem?_cons_succ]
    exact this
theorem cellsF_length : ∀ (L : List Fld) (us : List Value), us.length = L.length → (cellsF L us).length = L.length * 4
  | [], _, _ => by simp [cellsF]
  | f :: t, u :: us, h => by
    have := cellsF_length t us (by simpa using h)
    simp only [cellsF, List.length_append, this, encF, List.length_cons, List.length_nil]
    omega
theorem cellsF_news {g : Nat} {w : World} : ∀ (L : List Fld) (us : List Value) (o : Nat), us.length = L.length →
    (∀ i, i < L.length → w.cell? ⟨g, o + i * 4, none⟩ = some (.string (S (L.getD i fd0).tag)) ∧ w.cell? ⟨g, o + i * 4 + 1, none⟩ = some (.string (S (L.getD i fd0).ind)) ∧
      w.cell? ⟨g, o + i * 4 + 2, none⟩ = some (us.getD i .nilIface) ∧ w.cell? ⟨g, o + i * 4 + 3, none⟩ = some (.int .i64 (L.getD i fd0).auth)) →
    ∀ j u, (cellsF L us)[j]? = some u → w.cell? ⟨g, o + j, none⟩ = some u
  | [], _, _, _, _, j, u, hu => by simp [cellsF] at hu
  | f :: t, x :: xs, o, hl, h, j, u, hu => by
    have e : cellsF (f :: t) (x :: xs) = .string (S f.tag) :: .string (S f.ind) :: x :: .int .i64 f.auth :: cellsF t xs := rfl
    rw [e] at hu
    have h0 := h 0 (by simp)
    match j, hu with
    | 0, hu => simp at hu; subst hu; simpa using h0.1
    | 1, hu => simp at hu; subst hu; simpa using h0.2.1
    | 2, hu => simp at hu; subst hu; simpa using h0.2.2.1
    | 3, hu => simp at hu; subst hu; simpa using h0.2.2.2
    | j + 4, hu =>
      simp only [List.getElem?_cons_succ] at hu
      have := cellsF_news t xs (o + 4) (by simpa using hl) (fun i hi => by
        have := h (i + 1) (by simpa using hi)
        rw [show o + (i + 1) * 4 = o + 4 + i * 4 by omega] at this
        exact this) j u hu
      rwa [show o + 4 + j = o + (j + 4) by omega] at this
theorem QL.one {u : Value} {L : List Sub} {w : World} (h : QL u L w) : u.oneCell' = true := by
  obtain ⟨a, cap, rfl, _⟩ := h
  rfl
theorem cellsF_one : ∀ (L : List Fld) (us : List Value), (∀ u ∈ us, u.oneCell' = true) → ∀ u ∈ cellsF L us, u.oneCell' = true
  | [], _, _, u, hu => by simp [cellsF] at hu
  | f :: t, [], _, u, hu => by simp [cellsF] at hu
  | f :: t, x :: xs, h, u, hu => by
    simp only [cellsF, List.mem_append, encF, List.mem_cons, List.not_mem_nil, or_false] at hu
    rcases hu with (rfl | rfl | rfl | rfl) | hu
    · rfl
    · rfl
    · exact h _ (by simp)
    · rfl
    · exact cellsF_one t xs (fun y hy => h y (List.mem_cons_of_mem _ hy)) u hu
/-- A row of these fields of the call's own, from block B on, nil while it is empty; their subfields lie in W0. -/
def FR (W0 : World) (B : Nat) (v : Value) (L : List Fld) (w : World) : Prop :=
  ∃ us : List Value, us.length = L.length ∧ w.ownsRow B 57 4 v L.length (cellsF L us) ∧ ∀ i, i < L.length → QL (us.getD i .nilIface) (L.getD i fd0).subs W0
theorem FR.nil (W0 w : World) (B : Nat) : FR W0 B (.slice none 0 0) [] w := ⟨[], rfl, World.ownsRow_nil _ _ _ _, fun i hi => by cases hi⟩
theorem FR.empty (W0 w : World) (B : Nat) (h : B ≤ w.heap.size) : FR W0 B (.slice (some ⟨w.heap.size, 0, none⟩) 0 0) [] (w.alloc (.cells #[] 57)) :=
  ⟨[], rfl, World.ownsRow_made w #[] 0 h (Nat.zero_le _) rfl, fun i hi => by cases hi⟩
theorem FR.fl {W0 : World} {B : Nat} {v : Value} {L : List Fld} {w : World} (h : FR W0 B v L w) (hbel : Below W0.heap.size W0 w) : FL v L w := by
  obtain ⟨us, hl, hown, hq⟩ := h
  rcases hown.2 with ⟨rfl, h0⟩ | ⟨g, cap, cur, rfl, hb, hg, hc, hm, hs, ht⟩
  · have : L = [] := List.eq_nil_of_length_eq_zero h0
    subst this
    exact ⟨none, 0, rfl, Nat.le_refl _, Nat.zero_le _, fun _ => rfl, fun i hi => by cases hi⟩
  · have hadd : ∀ j, (⟨g, 0, none⟩ : Addr).add j = ⟨g, j, none⟩ := fun j => by unfold Addr.add; split <;> simp_all
    refine ⟨_, cap, rfl, hc, hm, (fun h => by cases h), fun i hi => ?_⟩
    have hcc := cellsF_at L us i hl hi
    have t0 := hown.cells (g := g) rfl _ _ hcc.1
    have t1 := hown.cells (g := g) rfl _ _ hcc.2.1
    have t2 := hown.cells (g := g) rfl _ _ hcc.2.2.1
    have t3 := hown.cells (g := g) rfl _ _ hcc.2.2.2
    rw [hadd] at t0 t1 t2 t3
    refine ⟨g, 0, us.getD i .nilIface, rfl, (Array.getElem?_eq_some_iff.1 hg).1, ?_⟩
    rw [Nat.zero_add]
    exact ⟨t0, t1, t2, t3, (hq i hi).after hbel⟩
theorem FR.after {W0 : World} {B : Nat} {v : Value} {L : List Fld} {w w' : World} (h : FR W0 B v L w) (hb : Below w.heap.size w w') : FR W0 B v L w' := by
  obtain ⟨us, h1, h2, h3⟩ := h
  exact ⟨us, h1, own_after h2 hb, h3⟩
theorem own_put {w : World} {B e size n : Nat} {v : Value} {xs : List Value} (h : w.ownsRow B e size v n xs) {p : Addr} (hp : p.block < B) (u : Value) : (w.setCell p u).ownsRow B e size v n xs := by
  refine ⟨h.1, ?_⟩
  rcases h.2 with hn | ⟨g, cap, cur, hv, hB', hg, rest⟩
  · exact .inl hn
  · exact .inr ⟨g, cap, cur, hv, hB', (Below.heap_setCell _ _ _ _ (by omega)).trans hg, rest⟩
theorem FR.put {W0 : World} {B : Nat} {v : Value} {L : List Fld} {w : World} (h : FR W0 B v L w) {p : Addr} (hp : p.block < B) (u : Value) : FR W0 B v L (w.setCell p u) := by
  obtain ⟨us, h1, h2, h3⟩ := h
  exact ⟨us, h1, own_put h2 hp u, h3⟩
theorem getD_app (us vs : List Value) (i : Nat) : (us ++ vs).getD i .nilIface = if i < us.length then us.getD i .nilIface else vs.getD (i - us.length) .nilIface := by
  rw [List.getD_eq_getElem?_getD]
  by_cases h : i < us.length
  · rw [if_pos h, List.getElem?_append_left h, List.getD_eq_getElem?_getD]
  · rw [if_neg h, List.getElem?_append_right (by omega), List.getD_eq_getElem?_getD]
theorem getD_appF (us vs : List Fld) (i : Nat) : (us ++ vs).getD i fd0 = if i < us.length then us.getD i fd0 else vs.getD (i - us.length) fd0 := by
  rw [List.getD_eq_getElem?_getD]
  by_cases h : i < us.length
  · rw [if_pos h, List.getElem?_append_left h, List.getD_eq_getElem?_getD]
  · rw [if_neg h, List.getElem?_append_right (by omega), List.getD_eq_getElem?_getD]
/-- What the walk needs for an append to a row: its cells; and the longer row again. -/
theorem FR.open {W0 : World} {B : Nat} {v : Value} {L : List Fld} {w : World} (h : FR W0 B v L w) :
    ∃ xs : List Value, w.ownsRow B 57 4 v L.length xs ∧ ∀ (M : List Fld) (vs : List Value) (v' : Value) (w' : World), vs.length = M.length → (∀ i, i < M.length → QL (vs.getD i .nilIface) (M.getD i fd0).subs W0) →
      w'.ownsRow B 57 4 v' (L.length + M.length) (xs ++ cellsF M vs) → FR W0 B v' (L ++ M) w' := by
  obtain ⟨us, hl, hown, hq⟩ := h
  refine ⟨_, hown, fun M vs v' w' hvl hvq hown' => ⟨us ++ vs, by rw [List.length_append, List.length_append, hl, hvl], ?_, fun i hi => ?_⟩⟩
  · rw [cellsF_app L us M vs hl, List.length_append]
    exact hown'
  · rw [getD_app, getD_appF, hl]
    by_cases h1 : i < L.length
    · rw [if_pos h1, if_pos h1]; exact hq i h1
    · rw [if_neg h1, if_neg h1]; exact hvq _ (by rw [List.length_append] at hi; omega)
/-- The subfields' values of a slice of fields. -/
theorem FL.vals {v : Value} {L : List Fld} {w : World} (h : FL v L w) : ∃ (a : Option Addr) (cap : Nat) (us : List Value), v = .slice a L.length cap ∧ L.length ≤ cap ∧ cap ≤ maxLen ∧ (a = none → cap = 0) ∧ us.length = L.length ∧ (∀ i, i < L.length → QL (us.getD i .nilIface) (L.getD i fd0).subs w) ∧
    ∀ i, i < L.length → ∃ g o, a = some ⟨g, o, none⟩ ∧ g < w.heap.size ∧ w.cell? ⟨g, o + i * 4, none⟩ = some (.string (S (L.getD i fd0).tag)) ∧ w.cell? ⟨g, o + i * 4 + 1, none⟩ = some (.string (S (L.getD i fd0).ind)) ∧
      w.cell? ⟨g, o + i * 4 + 2, none⟩ = some (us.getD i .nilIface) ∧ w.cell? ⟨g, o + i * 4 + 3, none⟩ = some (.int .i64 (L.getD i fd0).auth) := by
  obtain ⟨a, cap, rfl, hc, hm, hn, hx⟩ := h
  have hch : ∀ i, ∃ u, i < L.length → ∃ g o, a = some ⟨g, o, none⟩ ∧ g < w.heap.size ∧ w.cell? ⟨g, o + i * 4, none⟩ = some (.string (S (L.getD i fd0).tag)) ∧ w.cell? ⟨g, o + i * 4 + 1, none⟩ = some (.string (S (L.getD i fd0).ind)) ∧
      w.cell? ⟨g, o + i * 4 + 2, none⟩ = some u ∧ w.cell? ⟨g, o + i * 4 + 3, none⟩ = some (.int .i64 (L.getD i fd0).auth) ∧ QL u (L.getD i fd0).subs w := by
    intro i
    by_cases hi : i < L.length
    · obtain ⟨g, o, u, h1, h2⟩ := hx i hi
      exact ⟨u, fun _ => ⟨g, o, h1, h2⟩⟩
    · exact ⟨.nilIface, fun h => absurd h hi⟩
  obtain ⟨F, hF⟩ : ∃ F : Nat → Value, ∀ i, i < L.length → ∃ g o, a = some ⟨g, o, none⟩ ∧ g < w.heap.size ∧ w.cell? ⟨g, o + i * 4, none⟩ = some (.string (S (L.getD i fd0).tag)) ∧ w.cell? ⟨g, o + i * 4 + 1, none⟩ = some (.string (S (L.getD i fd0).ind)) ∧
      w.cell? ⟨g, o + i * 4 + 2, none⟩ = some (F i) ∧ w.cell? ⟨g, o + i * 4 + 3, none⟩ = some (.int .i64 (L.getD i fd0).auth) ∧ QL (F i) (L.getD i fd0).subs w := ⟨fun i => Classical.choose (hch i), fun i => Classical.choose_spec (hch i)⟩
  have hg : ∀ i, i < L.length → ((List.range L.length).map F).getD i .nilIface = F i := fun i hi => by
    rw [List.getD_eq_getElem?_getD, List.getElem?_map, List.getElem?_range hi]
    simp
  refine ⟨a, cap, (List.range L.length).map F, rfl, hc, hm, hn, by simp, fun i hi => ?_, fun i hi => ?_⟩
  · rw [hg i hi]
    obtain ⟨g, o, _, _, _, _, _, _, hq⟩ := hF i hi
    exact hq
  · rw [hg i hi]
    obtain ⟨g, o, h1, h2, h3, h4, h5, h6, _⟩ := hF i hi
    exact ⟨g, o, h1, h2, h3, h4, h5, h6⟩
theorem infoFld : (Tryz.prog.info? 57).map (fun i => (i.zero, i.size, i.bytes)) = some (some (.agg #[.string ⟨#[]⟩, .string ⟨#[]⟩, .slice none 0 0, .int .i64 0]), 4, 64) := by kernel_rfl
theorem info_fld : ∃ i0, Tryz.prog.info? 57 = some i0 ∧ i0.zero = some (.agg #[.string ⟨#[]⟩, .string ⟨#[]⟩, .slice none 0 0, .int .i64 0]) ∧ i0.size = 4 ∧ i0.bytes = 64 := by
  obtain ⟨i0, h0, h2⟩ := Option.map_eq_some_iff.1 infoFld
  simp only [Prod.mk.injEq] at h2
  exact ⟨i0, h0, h2.1, h2.2.1, h2.2.2⟩
/-- Fields that can be appended: nothing at no address, or these cells there. -/
def NW (W0 : World) (ao : Option Addr) (M : List Fld) (w : World) : Prop :=
  (ao = none → M = []) ∧ ∀ ad, ao = some ad → ∃ us : List Value, us.length = M.length ∧ (∀ i, i < M.length → QL (us.getD i .nilIface) (M.getD i fd0).subs W0) ∧ ∀ j u, (cellsF M us)[j]? = some u → w.cell? (ad.add j) = some u
/-- append of a slice of fields to a row of the call's own. -/
theorem append_fr {ops : Array Oper} {rest : List Oper} {o : Oper} {a : Act} {Q : Exit → Act → World → Prop} (w : World) (hgd : o.guard = none) (s x : Operand)
    (ho : o.op = .call { callee := .builtin .append, args := #[s, x], argTypes := #[31, 31] })
    (W0 : World) (B : Nat) (v : Value) (L : List Fld) (hs : a.eval s = v) (hfr : FR W0 B v L w) (ao : Option Addr) (M : List Fld) (m c : Nat) (hx : a.eval x = .slice ao m c) (hm : M.length = m) (hc : ao = none → c = 0) (hN : NW W0 ao M w)
    (hz : L.length + M.length ≤ 100000) (hB : B ≤ w.heap.size) (N : Nat) (W1 : World) (hNB : N ≤ B) (hb : Below N W1 w)
    (h : ∀ v' w', FR W0 B v' (L ++ M) w' → Below N W1 w' → B ≤ w'.heap.size → (v' = .slice none 0 0 ↔ v = .slice none 0 0 ∧ m = 0) → wpList Tryz.prog ops Q rest (a.put o.dst v') w') : wpList Tryz.prog ops Q (o :: rest) a w := by
  obtain ⟨i0, hi, hz0, hz1, hz2⟩ := info_fld
  obtain ⟨xs, hrow, hpush⟩ := hfr.open
  cases ao with
  | none =>
    obtain rfl := hN.1 rfl
    obtain rfl := hc rfl
    obtain rfl : m = 0 := hm.symm
    refine wpList_append_own_none hgd s x _ ho B _ i0 4 Tryz.underlying31 hi v L.length xs hs hrow hx (h v w ?_ hb hB ?_)
    · rw [List.append_nil]; exact hfr
    · simp
  | some ad =>
    obtain ⟨us, hl, hq, hcell⟩ := hN.2 ad rfl
    refine wpList_append_own w hgd s x _ ho B _ i0 (.agg #[.string ⟨#[]⟩, .string ⟨#[]⟩, .slice none 0 0, .int .i64 0]) 4 64 Tryz.underlying31 hi hz0 hz1 hz2 rfl (by decide) v L.length xs hs hrow ad m c (cellsF M us) hx
      (by rw [cellsF_length M us hl, hm]) hcell (cellsF_one M us fun u hu => ?_) (by unfold maxLen; omega) (by omega) hB fun v' w' hown' hgrow hnil => h v' w' ?_ ?_ ?_ hnil
    · obtain ⟨i, hi, rfl⟩ := List.mem_iff_getElem.1 hu
      have := (hq i (by omega)).one
      rwa [List.getD_eq_getElem?_getD, List.getElem?_eq_getElem hi] at this
    · rw [← hm] at hown'
      exact hpush M us v' w' hl hq hown'
    · exact hb.grown hgrow (by omega) (fun j hj => Nat.le_trans hNB (hrow.lt j hj).1)
    · exact Nat.le_trans hB hgrow.size
theorem cells_four (w : World) (a b c d : Value) (t : TypeId) : ∀ j u, [a, b, c, d][j]? = some u → (w.alloc (.cells #[a, b, c, d] t)).cell? ((⟨w.heap.size, 0, none⟩ : Addr).add j) = some u := by
  intro j u hj
  match j, hj with
  | 0, hj => simp at hj; subst hj; simp [Addr.add]
  | 1, hj => simp at hj; subst hj; simp [Addr.add]
  | 2, hj => simp at hj; subst hj; simp [Addr.add]
  | 3, hj => simp at hj; subst hj; simp [Addr.add]
  | (j + 4), hj => simp at hj
end

section
open Go.RowKit
/-- The state in which the operations of a region have left these values. -/
def puts : List Oper → (Nat → Value) → Nat → Act → Act
  | [], _, _, a => a
  | o :: r, vs, k, a => puts r vs (k + 1) (a.put o.dst (vs k))
theorem put_put (a : Act) (d : Option Tmp) (u v : Value) : (a.put d u).put d v = a.put d v := by
  cases d with
  | none => rfl
  | some d =>
    unfold Act.put
    simp
theorem puts_congr : ∀ (r : List Oper) (vs us : Nat → Value) (k : Nat) (a : Act), (∀ j, k ≤ j → vs j = us j) → puts r vs k a = puts r us k a
  | [], _, _, _, _, _ => rfl
  | o :: r, vs, us, k, a, h => by
    rw [puts, puts, h k (Nat.le_refl k)]
    exact puts_congr r vs us (k + 1) _ (fun j hj => h j (by omega))
theorem puts_put : ∀ (r : List Oper) (vs : Nat → Value) (k : Nat) (a : Act) (d : Option Tmp) (v : Value), (∀ o, o ∈ r → ∀ x, o.dst = some x → d ≠ some x) → (puts r vs k a).put d v = puts r vs k (a.put d v)
  | [], _, _, _, _, _, _ => rfl
  | o :: r, vs, k, a, d, v, h => by
    rw [puts, puts, puts_put r vs (k + 1) _ d v (fun p hp => h p (List.mem_cons_of_mem _ hp)), Act.put_comm a (vs k) v (h o (List.mem_cons_self ..))]
/-- No two operations lay their value at one place. -/
def distinctB : List Oper → Bool
  | [] => true
  | o :: r => (match o.dst with
    | some d => r.all fun p => !decide (p.dst = some d)
    | none => true) && distinctB r
theorem distinct_head {o : Oper} {r : List Oper} (h : distinctB (o :: r) = true) : ∀ p, p ∈ r → ∀ x, p.dst = some x → o.dst ≠ some x := by
  intro p hp x hx ho
  unfold distinctB at h
  rw [ho, Bool.and_eq_true] at h
  have h1 : r.all (fun p => !decide (p.dst = some x)) = true := h.1
  have := List.all_eq_true.1 h1 p hp
  simp [hx] at this
theorem distinct_tail {o : Oper} {r : List Oper} (h : distinctB (o :: r) = true) : distinctB r = true := by
  unfold distinctB at h
  rw [Bool.and_eq_true] at h
  exact h.2
def upd (vs : Nat → Value) (i : Nat) (v : Value) : Nat → Value := fun j => if j = i then v else vs j
theorem puts_upd : ∀ (r : List Oper) (vs : Nat → Value) (k m : Nat) (a : Act) (o : Oper) (v : Value), distinctB r = true → r[m]? = some o → (puts r vs k a).put o.dst v = puts r (upd vs (k + m) v) k a
  | [], _, _, _, _, _, _, _, h => by cases h
  | o' :: r, vs, k, 0, a, o, v, hd, h => by
    obtain rfl : o' = o := by simpa using h
    rw [puts, puts, puts_put r vs (k + 1) _ _ v (distinct_head hd), put_put]
    have e : upd vs (k + 0) v k = v := by simp [upd]
    rw [e]
    refine puts_congr r _ _ (k + 1) _ (fun j hj => ?_)
    unfold upd
    rw [if_neg (by omega)]
  | o' :: r, vs, k, m + 1, a, o, v, hd, h => by
    have h' : r[m]? = some o := by simpa using h
    have e : upd vs (k + (m + 1)) v k = vs k := by
      unfold upd
      rw [if_neg (by omega)]
    rw [puts, puts, e, puts_upd r vs (k + 1) m _ o v (distinct_tail hd) h', show k + 1 + m = k + (m + 1) by omega]
theorem put_self (a : Act) (d : Option Tmp) : ∃ v, a.put d v = a := by
  cases d with
  | none => exact ⟨undef, rfl⟩
  | some d =>
    refine ⟨a.tmps.getD d undef, ?_⟩
    unfold Act.put
    have e : a.tmps.setIfInBounds d (a.tmps.getD d undef) = a.tmps := by
      apply Array.ext
      · simp
      · intro i h1 h2
        rw [Array.getElem_setIfInBounds]
        split
        · rename_i he
          subst he
          simp [h2]
        · rfl
    show ({ a with tmps := a.tmps.setIfInBounds d (a.tmps.getD d undef) } : Act) = a
    rw [e]
theorem puts_self : ∀ (r : List Oper) (k : Nat) (a : Act), ∃ vs, puts r vs k a = a
  | [], _, _ => ⟨fun _ => undef, rfl⟩
  | o :: r, k, a => by
    obtain ⟨us, hu⟩ := puts_self r (k + 1) a
    obtain ⟨v, hv⟩ := put_self a o.dst
    refine ⟨upd us k v, ?_⟩
    have e : upd us k v k = v := by simp [upd]
    rw [puts, e, hv]
    rw [← hu]
    rw [puts_congr r (upd us k v) us (k + 1) _ (fun j hj => by unfold upd; rw [if_neg (by omega)])]
    rw [hu, hu]

/-- What an operation yields, as long as memory only grows. -/
structure SP where
  p : Value → World → Prop
  st : ∀ v w w', p v w → Below w.heap.size w w' → p v w'
def SP.any : SP := ⟨fun _ _ => True, fun _ _ _ _ _ => trivial⟩
def SP.eq (x : Value) : SP := ⟨fun v _ => v = x, fun _ _ _ h _ => h⟩
/-- Does an operation wait for number j? -/
def depB (o : Oper) (j : Nat) : Bool := o.after.any fun e => Region.binds .any e && decide (e.on = j)
/-- Each operation waits only for earlier ones. -/
def backB : List Oper → Nat → Bool
  | [], _ => true
  | o :: r, k => (o.after.all fun e => !Region.binds .any e || decide (e.on < k)) && backB r (k + 1)
theorem back_at : ∀ (r : List Oper) (k m : Nat) (o : Oper), backB r k = true → r[m]? = some o → ∀ e, e ∈ o.after → Region.binds .any e = true → e.on < k + m
  | [], _, _, _, _, h, _, _, _ => by cases h
  | o' :: r, k, 0, o, hb, h, e, he, hx => by
    obtain rfl : o' = o := by simpa using h
    unfold backB at hb
    rw [Bool.and_eq_true] at hb
    have := (Array.all_eq_true_iff_forall_mem.1 hb.1) e he
    rw [hx] at this
    simpa using this
  | o' :: r, k, m + 1, o, hb, h, e, he, hx => by
    unfold backB at hb
    rw [Bool.and_eq_true] at hb
    have := back_at r (k + 1) m o hb.2 (by simpa using h) e he hx
    omega

section
variable (P : Program) (Q : Exit → Act → World → Prop) (ops : Array Oper) (A : (Nat → Value) → Act) (w0 : World) (V : List SP)
/-- Whatever came before: the operation yields what is said of it. -/
def Ob (k : Nat) (o : Oper) : Prop :=
  ∀ (vs : Nat → Value) (w : World), Below w0.heap.size w0 w → (∀ j, depB o j = true → (V.getD j SP.any).p (vs j) w) → ∀ K : Act → World → Prop,
    RowKit.Hid (∀ v w', (V.getD k SP.any).p v w' → Below w.heap.size w w' → K ((A vs).put o.dst v) w') →
    if Region.wanted o (yielded ops (A vs).tmps) = true then Oper.wp P o (A vs) w K Q else K ((A vs).put o.dst undef) w
def Obs : List Oper → Nat → Prop
  | [], _ => True
  | o :: r, k => Ob P Q ops A w0 V k o ∧ Obs r (k + 1)
theorem Obs.at : ∀ (r : List Oper) (k m : Nat) (o : Oper), Obs P Q ops A w0 V r k → r[m]? = some o → Ob P Q ops A w0 V (k + m) o
  | [], _, _, _, _, h => by cases h
  | o' :: r, k, 0, o, hO, h => by
    obtain rfl : o' = o := by simpa using h
    exact hO.1
  | o' :: r, k, m + 1, o, hO, h => by
    have := Obs.at r (k + 1) m o hO.2 (by simpa using h)
    rwa [show k + 1 + m = k + (m + 1) by omega] at this
theorem Obs.nil {k : Nat} : Obs P Q ops A w0 V [] k := trivial
theorem Obs.cons {o : Oper} {r : List Oper} {k : Nat} (h : Ob P Q ops A w0 V k o) (t : Obs P Q ops A w0 V r (k + 1)) : Obs P Q ops A w0 V (o :: r) k := ⟨h, t⟩
end

theorem wpAny_inv {P : Program} {Q : Exit → Act → World → Prop} {ops : Array Oper} (I : Array Bool → Act → World → Prop)
    (hs : ∀ l a w, I l a w → l.size = ops.size)
    (step : ∀ l a w i, I l a w → i ∈ Region.ready .any ops l → wpOp P ops Q i (fun a' w' => I (l.setIfInBounds i true) a' w') a w)
    (fin : ∀ l a w, I l a w → Region.ready .any ops l = [] → Q .normal a w) :
    ∀ (fuel : Nat) (l : Array Bool) (a : Act) (w : World), l.toList.count false ≤ fuel → I l a w → wpAny P .any ops Q fuel l a w
  | 0, l, a, w, hf, hI => by
    have hr : Region.ready .any ops l = [] := by
      rw [List.eq_nil_iff_forall_not_mem]
      intro j hj
      have h0 := (mem_ready.1 hj).1
      have hlt : j < l.size := by
        rcases Nat.lt_or_ge j l.size with h' | h'
        · exact h'
        · simp [Array.getElem?_eq_none h'] at h0
      have hm : false ∈ l.toList := by
        have : l[j] = false := by simpa [hlt] using h0
        rw [← this]
        simp
      have := List.count_pos_iff.2 hm
      omega
    exact ⟨hr, fin l a w hI hr⟩
  | fuel + 1, l, a, w, hf, hI => by
    refine ⟨fun h => fin l a w hI h, fun i hi => ?_⟩
    refine wpOp_mono (fun a' w' hI' => wpAny_inv I hs step fin fuel _ a' w' ?_ hI') (step l a w i hI hi)
    have h0 := (mem_ready.1 hi).1
    have hlt : i < l.size := by
      rcases Nat.lt_or_ge i l.size with h' | h'
      · exact h'
      · simp [Array.getElem?_eq_none h'] at h0
    have hli : l.toList[i]'(by simpa using hlt) = false := by simpa [hlt] using h0
    have hc : (l.toList.set i true).count false = l.toList.count false - 1 := by
      rw [List.count_set (by simpa using hlt), hli]
      simp
    rw [Array.toList_setIfInBounds, hc]
    omega

theorem wp_region_inv {P : Program} {id : Nat} {ops : Array Oper} {Q : Exit → Act → World → Prop} {a0 : Act} {w0 : World} (V : List SP) (A : (Nat → Value) → Act)
    (hm : P.follows .mixedOrders = true) (hd : distinctB ops.toList = true) (hb : backB ops.toList 0 = true) (hA : ∀ vs, puts ops.toList vs 0 a0 = A vs)
    (hob : Obs P Q ops A w0 V ops.toList 0)
    (hfin : ∀ vs w, Below w0.heap.size w0 w → (∀ k, k < ops.size → (V.getD k SP.any).p (vs k) w) → Q .normal (A vs) w) :
    (Code.region id ops true).wp P Q a0 w0 := by
  refine wp_region_any hm ?_
  refine wpAny_inv (I := fun l a w => l.size = ops.size ∧ ∃ vs, a = A vs ∧ Below w0.heap.size w0 w ∧ ∀ k, l.getD k false = true → (V.getD k SP.any).p (vs k) w) (fun l a w h => h.1) ?_ ?_ _ _ _ _ ?_ ?_
  · rintro l a w i ⟨hl, vs, rfl, hw, hk⟩ hi
    obtain ⟨h0, o, ho, hall⟩ := mem_ready.1 hi
    have hlt : i < ops.size := (Array.getElem?_eq_some_iff.1 ho).1
    have hO := Obs.at P Q ops A w0 V ops.toList 0 i o hob (by simpa using ho)
    rw [Nat.zero_add] at hO
    have hput : ∀ v, (A vs).put o.dst v = A (upd vs i v) := fun v => by
      rw [← hA, ← hA, puts_upd ops.toList vs 0 i a0 o v hd (by simpa using ho), Nat.zero_add]
    have hst := hO vs w hw (fun j hj => by
      unfold depB at hj
      rw [Array.any_eq_true'] at hj
      obtain ⟨e, he, hx⟩ := hj
      rw [Bool.and_eq_true, decide_eq_true_eq] at hx
      obtain ⟨hx, rfl⟩ := hx
      exact hk _ (hall e he hx)) (fun a' w' => (l.setIfInBounds i true).size = ops.size ∧ ∃ vs, a' = A vs ∧ Below w0.heap.size w0 w' ∧ ∀ k, (l.setIfInBounds i true).getD k false = true → (V.getD k SP.any).p (vs k) w')
      (by
        intro v w' hv hbw
        refine ⟨by simpa using hl, upd vs i v, hput v, hw.trans (hbw.mono hw.size), fun k hk' => ?_⟩
        by_cases hki : k = i
        · subst hki
          have e : upd vs k v k = v := by simp [upd]
          rw [e]
          exact hv
        · have e : upd vs i v k = vs k := by unfold upd; rw [if_neg hki]
          rw [e]
          refine (V.getD k SP.any).st _ _ _ (hk k ?_) hbw
          rwa [getD_set_ne false (Ne.symm hki)] at hk')
    unfold wpOp
    simp only [ho]
    split
    · rename_i hw'
      rw [if_pos hw'] at hst
      exact .inl hst
    · rename_i hw'
      rw [if_neg hw'] at hst
      exact hst
  · rintro l a w ⟨hl, vs, rfl, hw, hk⟩ hr
    have hall : ∀ k, k < ops.size → l.getD k false = true := by
      intro k
      induction k using Nat.strongRecOn with
      | ind k ih =>
        intro hk'
        cases hlk : l.getD k false with
        | true => rfl
        | false =>
          exfalso
          have : k ∈ Region.ready .any ops l := by
            rw [mem_ready]
            refine ⟨?_, ops[k], Array.getElem?_eq_getElem hk', fun e he hx => ?_⟩
            · have : k < l.size := by omega
              simpa [this] using hlk
            · have := back_at ops.toList 0 k ops[k] hb (by simp [hk']) e he hx
              exact ih e.on (by omega) (by omega)
          rw [hr] at this
          cases this
    exact hfin vs w hw (fun k hk' => hk k (hall k hk'))
  · have : ∀ n : Nat, (List.replicate n false).count false = n := fun n => by simp
    simp
  · obtain ⟨vs, hvs⟩ := puts_self ops.toList 0 a0
    refine ⟨by simp, vs, by rw [← hA, hvs], (Below.refl _ w0).drew, fun k hk => ?_⟩
    by_cases h : k < ops.size
    · simp [h] at hk
    · simp [h] at hk
end

end Go.Proofs.YtfjfpefpdlecbaaGreatDoor
