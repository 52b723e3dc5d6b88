/- Merged: QO13, IM13, IA13. -/
import Derived.Test.YtmcolapcmjdoeaaGreatDoorQ32
import Derived.Test.YtmcolapcmjdoeaaGreatDoorQ30
import Derived.Laws.CopyOwn
import Derived.Laws.IdiomCopy
import Derived.Laws.Externs
import Derived.LaidEql
import Derived.Deep.RegionLaw
namespace Go.Proofs.YtmcolapcmjdoeaaGreatDoor

section
open Go.RowKit Go.PlainAid Go.Maps
set_option maxHeartbeats 8000000 in
theorem indexI_any (v : Value) (l : List Int) (x : Int) (w : World) (hv : IL v l w) (hz : l.length ≤ 1000000) :
    Calls Tryz.prog 75 #[v, .int .i64 x] w fun e w' => ∃ r : Int, e = .returned (.int .i64 r) ∧ decide (0 ≤ r) = decide (x ∈ l) ∧ w' = w := by
  obtain ⟨Q, hQ⟩ : ∃ Q, (fun (e : Ending) (w' : World) => ∃ r : Int, e = .returned (.int .i64 r) ∧ decide (0 ≤ r) = decide (x ∈ l) ∧ w' = w) = Q := ⟨_, rfl⟩
  rw [hQ]
  have HQ : RowKit.Hid (∀ r : Int, (0 ≤ r ↔ x ∈ l) → Q (.returned (.int .i64 r)) w) := by
    rw [← hQ]
    exact fun r h => ⟨r, rfl, by rw [Bool.eq_iff_iff, decide_eq_true_iff, decide_eq_true_iff]; exact h, rfl⟩
  have HV := Lib.hid hv
  obtain ⟨a, cap, rfl, hc, -⟩ := hv
  obtain ⟨n, hn⟩ : ∃ n, l.length = n := ⟨_, rfl⟩
  have HN := Lib.hid hn
  rw [hn] at HV hc hz ⊢
  clear hQ hn
  go_enter Tryz.func75, Tryz.ntmps75
  go_wp2
  go_loopw [8] (fun s8 wr => ∃ k : Nat, s8 = .int .i64 (k : Int) ∧ k ≤ n ∧ RowKit.Hid (∀ j, j < k → l.getD j 0 ≠ x) ∧ w = wr) (fun s8 _ => n - (intOf s8).toNat)
  case atStart => exact ⟨0, rfl, Nat.zero_le _, (fun j hj => by omega), rfl⟩
  case round =>
    obtain ⟨k, rfl, hk, HJ, hwr⟩ := hrel
    rw [← hwr]
    clear hwr
    by_cases hkn : k < n
    · have i1 : (0 : Int) ≤ (k : Int) := by omega
      have i2 : (k : Int) < (n : Int) := by omega
      obtain ⟨g, o, cap', he, hg, c0⟩ := il_at HV.out k (by rw [HN.out]; exact hkn)
      obtain ⟨rfl, -, hcp⟩ := Value.slice.inj he
      have HM : RowKit.Hid (l.getD k 0 = x → x ∈ l) := by
        intro e
        rw [← e, List.getD_eq_getElem?_getD, List.getElem?_eq_getElem (by rw [HN.out]; exact hkn)]
        exact List.getElem_mem _
      obtain ⟨y, hy⟩ : ∃ y, l.getD k 0 = y := ⟨_, rfl⟩
      rw [hy] at c0 HM
      have HY := Lib.hid hy
      clear he hcp hy
      by_cases hyx : x = y
      · subst hyx
        have hno := HQ.out (k : Int) ⟨fun _ => HM.out rfl, fun _ => by omega⟩
        have t0 : (x == x) = true := by simp
        go_wp2
        first | exact hno | (go_ret; exact hno)
      · have t0 : (x == y) = false := by simpa using hyx
        have HJ2 : RowKit.Hid (∀ j, j < k + 1 → l.getD j 0 ≠ x) := by
          intro j hj
          rcases Nat.lt_or_ge j k with h | h
          · exact HJ.out j h
          · rw [show j = k by omega, HY.out]
            exact fun e => hyx e.symm
        clear hyx HM
        go_wp2
        go_roundw
        case rel => first | exact ⟨k + 1, by go_num, by omega, HJ2.out, rfl⟩ | exact ⟨k + 1, by go_num, by omega, HJ2.out, trivial⟩
        case measure => simp [intOf]; omega
    · obtain rfl : k = n := by omega
      have hno := HQ.out (-1) ⟨fun h => by omega, fun h => by
        obtain ⟨j, hj, e⟩ := List.mem_iff_getElem.1 h
        have := HJ.out j (by rw [HN.out] at hj; exact hj)
        rw [List.getD_eq_getElem?_getD, List.getElem?_eq_getElem hj] at this
        exact absurd e this⟩
      go_wp2
      first | exact hno | (go_ret; exact hno)
set_option maxHeartbeats 4000000 in
theorem containsI_any (v : Value) (l : List Int) (x : Int) (w : World) (hv : IL v l w) (hz : l.length ≤ 1000000) (b : Bool) (hb : decide (x ∈ l) = b) :
    Calls Tryz.prog 46 #[v, .int .i64 x] w fun e w' => e = .returned (.bool b) ∧ w' = w := by
  have c1 := indexI_any v l x w hv hz
  obtain ⟨a, cap, rfl, hc, -⟩ := hv
  rw [hb] at c1
  clear hb
  generalize l.length = n at *
  go_enter Tryz.func46, Tryz.ntmps46
  go_wp2_with fail
  refine c1.mono ?_
  rintro e w1 ⟨r, rfl, hr, hw1⟩
  rw [hw1]
  clear c1 hw1
  go_wp2
  go_ret
  exact ⟨by first | rfl | (rw [← hr]; rfl) | simp [*], rfl⟩

/-! A file without one authority. -/
theorem flat_take (F : List Ent) (k : Nat) : (F.flatMap cellsU).take (k * 5) = (F.take k).flatMap cellsU := by
  induction F generalizing k with
  | nil => simp
  | cons x r ih =>
    cases k with
    | zero => simp
    | succ k =>
      rw [List.take_succ_cons, List.flatMap_cons, List.flatMap_cons, ← ih k]
      have hl : (cellsU x).length = 5 := rfl
      rw [List.take_append, hl, List.take_of_length_le (by rw [hl]; omega)]
      congr 2
      omega
theorem flat_drop (F : List Ent) (k : Nat) : (F.flatMap cellsU).drop (k * 5) = (F.drop k).flatMap cellsU := by
  induction F generalizing k with
  | nil => simp
  | cons x r ih =>
    cases k with
    | zero => simp
    | succ k =>
      rw [List.drop_succ_cons, List.flatMap_cons, ← ih k]
      have hl : (cellsU x).length = 5 := rfl
      rw [List.drop_append, hl, List.drop_of_length_le (by rw [hl]; omega), List.nil_append]
      congr 1
      omega
theorem cellsU_one {B : Nat} {v : Value} {F : List Ent} {w : World} (h : FR B v F w) : ∀ u ∈ F.flatMap cellsU, u.oneCell' = true := by
  intro u hu
  obtain ⟨x, hx, hu⟩ := List.mem_flatMap.1 hu
  obtain ⟨a1, c1, e1, -, -⟩ := own_form13 (h.see x hx)
  obtain ⟨a2, c2, e2, -, -⟩ := own_form13 (h.abv x hx)
  unfold cellsU at hu
  rw [e1, e2] at hu
  simp only [List.mem_cons, List.not_mem_nil, or_false] at hu
  rcases hu with rfl | rfl | rfl | rfl | rfl <;> rfl
theorem FR.del {B : Nat} {v v' : Value} {F : List Ent} {w w' : World} (h : FR B v F w) (k : Nat) (hk : k < F.length) (hrow : w'.ownsRow B 31 5 v' (F.length - 1) ((F.flatMap cellsU).take (k * 5) ++ (F.flatMap cellsU).drop ((k + 1) * 5))) (hg : w.grownBy w' v.ownBlock) : FR B v' (F.take k ++ F.drop (k + 1)) w' := by
  have hl : (F.take k ++ F.drop (k + 1)).length = F.length - 1 := by rw [List.length_append, List.length_take, List.length_drop]; omega
  have hsub : List.Sublist (F.take k ++ F.drop (k + 1)) F := by
    rw [← List.eraseIdx_eq_take_drop_succ]
    exact List.eraseIdx_sublist _ _
  refine ⟨?_, fun x hx => ?_, fun x hx => ?_, List.Pairwise.sublist hsub h.sap, List.Pairwise.sublist hsub h.aap⟩
  · rw [hl, List.flatMap_append, ← flat_take, ← flat_drop]
    exact hrow
  · exact (h.see x (hsub.subset hx)).kept hg (own_types (h.see x (hsub.subset hx)) h.row ne_string)
  · exact (h.abv x (hsub.subset hx)).kept hg (own_types (h.abv x (hsub.subset hx)) h.row ne_int)

set_option maxHeartbeats 16000000 in
set_option maxRecDepth 100000 in
theorem remove_any (v : Value) (L : List Au) (id : Int) (w : World) (hv : AL v L w) (hb : bnd L) (hr : rightA L = 0) :
    Calls Tryz.prog 17 #[v, .int .i64 id] w fun e w' => ∃ v', e = .returned (.tuple #[v', .int .i64 (remA L id).2]) ∧ AL v' (remA L id).1 w' ∧ Below w.heap.size w w' := by
  obtain ⟨Q, hQ⟩ : ∃ Q, (fun (e : Ending) (w' : World) => ∃ v', e = .returned (.tuple #[v', .int .i64 (remA L id).2]) ∧ AL v' (remA L id).1 w' ∧ Below w.heap.size w w') = Q := ⟨_, rfl⟩
  rw [hQ]
  have HQ : RowKit.Hid (∀ v' r W, (remA L id).2 = r → AL v' (remA L id).1 W → Below w.heap.size w W → Q (.returned (.tuple #[v', .int .i64 r])) W) := by
    rw [← hQ]
    exact fun v' r W h0 h1 h2 => ⟨v', by rw [h0], h1, h2⟩
  obtain ⟨hbl, hbz⟩ := bnd_len hb
  have hasc := right_asc L hr
  have HV := Lib.hid hv
  have cP := Lib.hid (place_any v L id w hv hasc (by omega))
  have cA := Lib.hid (fun (W : World) (h : Below w.heap.size w W) => cloneAll_any v L W (hv.after h) hbl hbz)
  have cT := Lib.hid (fun (a : Au) (ha : a ∈ L) (t : Value) (W : World) (ht : IL t a.above W) (b : Bool) (hb : decide (id ∈ a.above) = b) => containsI_any t a.above id W ht (by have := (hbz a ha).2; omega) b hb)
  obtain ⟨va, vc, rfl, hc1, hc2⟩ := hv.length
  cases hg : getA L id with
  | none =>
    have hs : remA L id = ([], 9) := by unfold remA; rw [hg]
    rw [hg] at cP
    rw [hs] at HQ
    have hno := Lib.hid (fun W h => HQ.out (.slice none 0 0) 9 W rfl (AL.nil W) h)
    have hb0 : (Option.isSome (none : Option Au)) = false := rfl
    rw [hb0] at cP
    clear hQ HQ hs hg hv hb hr hasc cA cT hbl hbz hb0 HV
    generalize plcA L id = k at *
    generalize L.length = n at *
    go_enter Tryz.func17, Tryz.ntmps17
    go_wp2_with fail
    refine cP.out.mono ?_
    rintro e w1 ⟨rfl, hb1⟩
    have hn := hno.out w1 hb1
    clear hb1
    go_wp2
    first | exact hn | (go_ret2; exact hn)
  | some a0 =>
    obtain ⟨hk1, hk2, hk3⟩ := get_plc_eq L id hasc a0 hg
    have hs1 : (L.any fun a => decide (id ∈ a.above)) = true → remA L id = ([], 10) := by
      intro h
      unfold remA
      rw [hg]
      exact if_pos h
    have hs2 : (L.any fun a => decide (id ∈ a.above)) = false → remA L id = (L.take (plcA L id) ++ L.drop (plcA L id + 1), 0) := by
      intro h
      unfold remA
      rw [hg]
      show (if _ then _ else _) = _
      rw [if_neg (by rw [h]; decide), wout_plc L id hasc hk1 (by rw [hk2, hk3])]
    rw [hg] at cP
    have hb0 : (some a0).isSome = true := rfl
    rw [hb0] at cP
    obtain ⟨k, hk⟩ : ∃ k, plcA L id = k := ⟨_, rfl⟩
    rw [hk] at cP hk1 hs2
    have HS1 := Lib.hid hs1
    have HS2 := Lib.hid hs2
    obtain ⟨n, hn⟩ : ∃ n, L.length = n := ⟨_, rfl⟩
    have HN := Lib.hid hn
    rw [hn] at cP cA HV hk1 hbl ⊢
    clear hQ hs1 hs2 hg hv hb hr hasc hb0 hk hk2 hn hk3 hbz
    go_enter Tryz.func17, Tryz.ntmps17
    go_wp2_with fail
    refine cP.out.mono ?_
    rintro e w1 ⟨rfl, hb1⟩
    have HB1 := Lib.hid hb1
    clear hb1 cP
    go_wp2
    go_loopw [20] (fun s20 wr => ∃ j : Nat, s20 = .int .i64 (j : Int) ∧ j ≤ n ∧ RowKit.Hid (∀ i, i < j → decide (id ∈ (L.getD i au0).above) = false) ∧ RowKit.Hid (Below w.heap.size w wr)) (fun s20 _ => n - (intOf s20).toNat)
    case atStart => exact ⟨0, rfl, Nat.zero_le _, (fun j hj => by omega), HB1.out⟩
    case round =>
      obtain ⟨j, rfl, hj, HJ, HB⟩ := hrel
      by_cases hjn : j < n
      · have i1 : (0 : Int) ≤ (j : Int) := by omega
        have i2 : (j : Int) < (n : Int) := by omega
        obtain ⟨g, o, cap', s, t, he, hg, c0, c1, c2, c3, c4, hq⟩ := (HV.out.after HB.out).at j (by rw [HN.out]; exact hjn)
        obtain ⟨rfl, -, hcp⟩ := Value.slice.inj he
        obtain ⟨a, ha⟩ : ∃ a, L.getD j au0 = a := ⟨_, rfl⟩
        have hmem : a ∈ L := by
          rw [← ha, getD_at13 L j (by rw [HN.out]; exact hjn)]
          exact List.getElem_mem _
        rw [ha] at c0 c1 c2 hq
        obtain ⟨as2, cs2, hs2, -, -⟩ := hq.1.length
        obtain ⟨at2, ct2, ht2, -⟩ := hq.2
        obtain ⟨Wb, hWb⟩ : ∃ W, wr.alloc (.cells #[.int .i64 a.id, .int .i64 a.kind, .string (S a.heading), s, t] 31) = W := ⟨_, rfl⟩
        have bb : Below wr.heap.size wr Wb := by rw [← hWb]; exact (Below.refl _ _).alloc (Nat.le_refl _) _
        have hRb : Wb.heap[wr.heap.size]? = some (.cells #[.int .i64 a.id, .int .i64 a.kind, .string (S a.heading), s, t] 31 (0, 0)) := by rw [← hWb]; exact heap_alloc_new wr _
        obtain ⟨⟨y0, y1, y2, y3, y4⟩, -⟩ := acells hRb
        obtain ⟨p, hp⟩ : ∃ p, decide (id ∈ a.above) = p := ⟨_, rfl⟩
        have cT2 := Lib.hid (cT.out a hmem t Wb (hq.2.after bb) p hp)
        have HBb := Lib.hid (HB.out.trans (bb.mono HB.out.size))
        have HWb := Lib.hid hWb
        have HA := Lib.hid ha
        have HP := Lib.hid hp
        have HMem := Lib.hid hmem
        clear he hcp hq hWb bb hRb ha hp hmem
        subst hs2 ht2
        go_upto_region 7 with fail
        rw [HWb.out]
        clear c0 c1 c2 c3 c4
        go_wp2_with fail
        refine cT2.out.mono ?_
        rintro e w6 ⟨rfl, hw6⟩
        rw [hw6]
        clear hw6
        cases p with
        | true =>
          have hs := HS1.out (List.any_eq_true.2 ⟨a, HMem.out, HP.out⟩)
          have hq := HQ.out (.slice none 0 0) 10 Wb (by rw [hs]) (by rw [hs]; exact AL.nil _) HBb.out
          clear hs y0 y1 y2 y3 y4
          go_wp2
          first | exact hq | (go_ret2; exact hq)
        | false =>
          have HJ2 : RowKit.Hid (∀ i, i < j + 1 → decide (id ∈ (L.getD i au0).above) = false) := by
            intro i hi
            rcases Nat.lt_or_ge i j with h | h
            · exact HJ.out i h
            · rw [show i = j by omega, HA.out, HP.out]
          clear y0 y1 y2 y3 y4
          go_wp2
          go_roundw
          case rel => exact ⟨j + 1, by go_num, by omega, HJ2.out, HBb.out⟩
          case measure => simp [intOf]; omega
      · obtain rfl : j = n := by omega
        have hany : (L.any fun a => decide (id ∈ a.above)) = false := by
          rw [Bool.eq_false_iff]
          intro h
          obtain ⟨a, ha, hp⟩ := List.any_eq_true.1 h
          obtain ⟨i, hi, rfl⟩ := List.mem_iff_getElem.1 ha
          have := HJ.out i (by rw [HN.out] at hi; exact hi)
          rw [getD_at13 L i hi, hp] at this
          cases this
        have hs := HS2.out hany
        rw [hs] at HQ
        have cA2 := Lib.hid (cA.out wr HB.out)
        have i9 : IntKind.i64.wrap ((k : Int) + 1) = (k : Int) + 1 := by rw [IntKind.wrap_i64]; omega
        clear hany hs cA cT HS1 HS2 HJ
        go_wp2_with fail
        refine cA2.out.mono ?_
        rintro e w2 ⟨v2, F, rfl, hF2, hM2, hb2⟩
        have HB2 := Lib.hid (HB.out.trans (hb2.mono HB.out.size))
        have hl2 : F.length = j := by rw [← HN.out, ← hM2, List.length_map]
        have cD := Lib.hid (delA_any wr.heap.size v2 F.length k (F.flatMap cellsU) w2 hF2.row (by omega) (by omega) (cellsU_one hF2))
        obtain ⟨a2, c2, rfl, -, -⟩ := hF2.form
        have HF2 := Lib.hid hF2
        have HM2 := Lib.hid hM2
        have HL2 := Lib.hid hl2
        rw [hl2] at cD ⊢
        clear hF2 hM2 hb2 hl2 cA2
        go_wp2_with fail
        refine cD.out.mono ?_
        rintro e w3 ⟨v3, rfl, hrow3, hg3, hob3⟩
        have hF3 := HF2.out.del k (by rw [HL2.out]; exact hk1) (by rw [HL2.out]; exact hrow3) (by rw [HL2.out]; exact hg3)
        have hm3 : (F.take k ++ F.drop (k + 1)).map (·.1) = L.take k ++ L.drop (k + 1) := by rw [List.map_append, List.map_take, List.map_drop, HM2.out]
        have hal := hF3.al
        rw [hm3] at hal
        have hbw : Below w.heap.size w w3 := HB2.out.grown hg3 HB2.out.size (fun g hg => Nat.le_trans HB.out.size (by have := (HF2.out.row.lt g (by rw [HL2.out]; exact hg)).1; exact this))
        have hq := HQ.out v3 0 w3 rfl hal hbw
        obtain ⟨a3, c3, hv3, -, -⟩ := hF3.form
        obtain ⟨n3, hn3⟩ : ∃ q, (F.take k ++ F.drop (k + 1)).length = q := ⟨_, rfl⟩
        rw [hn3] at hv3
        subst hv3
        clear hn3 hF3 hm3 hal hbw hrow3 hg3 hob3
        go_wp2
        first | exact hq | (go_ret2; exact hq)
end

section
open Go.RowKit Go.PlainAid
theorem run_append_mk {P : Program} (w : World) (t ti ty e : TypeId) (i : TypeInfo) (z : Value) (ht : P.underlying t = some (.slice e)) (hti : P.underlying ti = some (.int .i64)) (hi : P.info? e = some i) (hz : i.zero = some z)
    (b : Addr) (sLen sCap : Nat) (olds : List Value) (hlo : olds.length = sLen * i.size) (holds : ∀ j v, olds[j]? = some v → w.cell? (b.add j) = some v)
    (nm : Nat) (hnz : nm * i.size ≠ 0) (hg : sCap < sLen + nm) (h63 : sLen + nm ≤ 100000) (hby : i.bytes ≤ 1000) (hfit : Builtin.nextslicecap (sLen + nm) sCap * i.bytes ≤ 281474976710656) :
    (Builtin.append_ #[t, ti] ty #[.slice (some b) sLen sCap, .int .i64 (nm : Int)]).run P w =
      .ok (.slice (some ⟨w.heap.size, 0, none⟩) (sLen + nm) (grownCap w (sLen + nm) sCap e))
        (w.drew.alloc (.cells (olds.toArray ++ Builtin.zeroCells z.cells nm ++ Builtin.zeroCells z.cells (grownCap w (sLen + nm) sCap e - (sLen + nm))) e)) := by
  have hn : ¬ (sLen + nm ≤ sCap) := by omega
  have h63' : ¬ (9223372036854775807 < ((sLen : Int) + (nm : Int))) := by omega
  have h48' : ¬ (281474976710656 < Builtin.nextslicecap (sLen + nm) sCap * i.bytes) := by omega
  have hw : IntKind.i64.wrap (nm : Int) = (nm : Int) := by rw [IntKind.wrap_i64]; omega
  have h0 : ¬ ((nm : Int) < 0) := by omega
  have hb : nm * i.bytes ≤ 100000 * 1000 := Nat.mul_le_mul (by omega) hby
  have hb' : ((nm * i.bytes : Nat) : Int) = (nm : Int) * (i.bytes : Int) := by simp
  have h48 : ¬ (281474976710656 < (nm : Int) * (i.bytes : Int)) := by omega
  have hfo := run_firstCells_some (P := P) w.drew i.size sLen b sLen sCap olds hlo (by simpa using holds)
  simp [Builtin.append_, run_underlying ht, run_underlying hti, sizeOf, typeInfo, zeroValue, hi, hz, Builtin.lenOf, hn, h63', h48', Question.forced, hfo, newRow, grownCap, asInt, asIntOf, hw, h0, h48, hnz]
  go_show

theorem run_copy_st {P : Program} (w : World) (dT sT ty elem : TypeId) (g o dLen dCap : Nat) (a : Addr) (sLen sCap : Nat) (size : Nat) (cs : List Value)
    (hu : P.underlying dT = some (.slice elem)) (hs : (P.info? elem).map (·.size) = some size) (hn : cs.length = Nat.min sLen dLen * size)
    (hsrc : ∀ j v, cs[j]? = some v → w.cell? (a.add j) = some v) (hc : ∀ j, j < cs.length → (w.cell? ⟨g, o + j, none⟩).isSome = true ∧ w.frozen? ⟨g, o + j, none⟩ = false) (h1 : ∀ v ∈ cs, v.oneCell' = true) :
    (Builtin.copy_ #[dT, sT] ty #[.slice (some ⟨g, o, none⟩) dLen dCap, .slice (some a) sLen sCap]).run P w = .ok (goInt (Nat.min sLen dLen)) (w.setCells g o cs) := by
  have hl := run_loadCells_list (P := P) w a cs hsrc
  have hst := run_storeCells_cells (P := P) g o cs 0 w (by simpa using fun j hj => (hc j hj).1) (by simpa using fun j hj => (hc j hj).2) h1
  simp only [Nat.add_zero] at hst
  cases hq : P.info? elem with
  | none => simp [hq] at hs
  | some i =>
    have hi : i.size = size := by simpa [hq] using hs
    simp [Builtin.copy_, run_underlying hu, Builtin.lenOf, Builtin.firstCells, sizeOf, typeInfo, hq, hi, ← hn, hl, hst]

theorem step_copy_st {P : Program} {ops : Array Oper} {o : Oper} {a : Act} {w : World} {K : Act → World → Prop} {Q : Exit → Act → World → Prop} {E : Prop} (hgd : o.guard = none) (d s : Operand) (dT sT : TypeId)
    (ho : o.op = .call { callee := .builtin .copy, args := #[d, s], argTypes := #[dT, sT] }) (elem : TypeId) (hu : P.underlying dT = some (.slice elem)) (size : Nat) (hsz : (P.info? elem).map (·.size) = some size)
    (g off dLen dCap : Nat) (ad : Addr) (sLen sCap : Nat) (hd : a.eval d = .slice (some ⟨g, off, none⟩) dLen dCap) (hs : a.eval s = .slice (some ad) sLen sCap) (cs : List Value) (hn : cs.length = Nat.min sLen dLen * size)
    (hsrc : ∀ j v, cs[j]? = some v → w.cell? (ad.add j) = some v) (hc : ∀ j, j < cs.length → (w.cell? ⟨g, off + j, none⟩).isSome = true ∧ w.frozen? ⟨g, off + j, none⟩ = false) (h1 : ∀ v ∈ cs, v.oneCell' = true)
    (h : K (a.put o.dst (goInt (Nat.min sLen dLen))) (w.setCells g off cs)) :
    if Region.wanted o (yielded ops a.tmps) = true then Oper.wp P o a w K Q else E := by
  have hw : Region.wanted o (yielded ops a.tmps) = true := by simp [Region.wanted, hgd]
  rw [if_pos hw]
  have hrun := run_copy_st (P := P) w dT sT o.type elem g off dLen dCap ad sLen sCap size cs hu hsz hn hsrc hc h1
  unfold Oper.wp
  simp [execOp, ho, resolve, invoke, builtin, hd, hs, hrun, Result.andThen]
  exact h
theorem wpList_copy_st {P : Program} {w : World} {ops : Array Oper} {rest : List Oper} {o : Oper} {a : Act} {Q : Exit → Act → World → Prop} (hgd : o.guard = none) (d s : Operand) (dT sT : TypeId)
    (ho : o.op = .call { callee := .builtin .copy, args := #[d, s], argTypes := #[dT, sT] }) (elem : TypeId) (hu : P.underlying dT = some (.slice elem)) (size : Nat) (hsz : (P.info? elem).map (·.size) = some size)
    (g off dLen dCap : Nat) (ad : Addr) (sLen sCap : Nat) (hd : a.eval d = .slice (some ⟨g, off, none⟩) dLen dCap) (hs : a.eval s = .slice (some ad) sLen sCap) (cs : List Value) (hn : cs.length = Nat.min sLen dLen * size)
    (hsrc : ∀ j v, cs[j]? = some v → w.cell? (ad.add j) = some v) (hc : ∀ j, j < cs.length → (w.cell? ⟨g, off + j, none⟩).isSome = true ∧ w.frozen? ⟨g, off + j, none⟩ = false) (h1 : ∀ v ∈ cs, v.oneCell' = true)
    (h : wpList P ops Q rest (a.put o.dst (goInt (Nat.min sLen dLen))) (w.setCells g off cs)) : wpList P ops Q (o :: rest) a w := by
  refine wpList_plain hgd fun K hK => ?_
  have hrun := run_copy_st (P := P) w dT sT o.type elem g off dLen dCap ad sLen sCap size cs hu hsz hn hsrc hc h1
  unfold Oper.wp
  simp [execOp, ho, resolve, invoke, builtin, hd, hs, hrun, Result.andThen]
  exact hK _ _ h


theorem grownCap_ok (w : World) (n cap : Nat) (e : TypeId) (h : n ≤ maxLen) : n ≤ grownCap w n cap e ∧ grownCap w n cap e ≤ maxLen := ⟨grownCap_ge w n cap e, grownCap_le_maxLen w n cap e h⟩

theorem wpList_append_run {P : Program} {w w' : World} {v : Value} {ops : Array Oper} {rest : List Oper} {o : Oper} {a : Act} {Q : Exit → Act → World → Prop} (hgd : o.guard = none) (d s : Operand) (t1 t2 : TypeId)
    (ho : o.op = .call { callee := .builtin .append, args := #[d, s], argTypes := #[t1, t2] }) (u x : Value) (hd : a.eval d = u) (hs : a.eval s = x) (hrun : (Builtin.append_ #[t1, t2] o.type #[u, x]).run P w = .ok v w')
    (h : wpList P ops Q rest (a.put o.dst v) w') : wpList P ops Q (o :: rest) a w := by
  refine wpList_plain hgd fun K hK => ?_
  unfold Oper.wp
  simp [execOp, ho, resolve, invoke, builtin, hd, hs, hrun, Result.andThen]
  exact hK _ _ h
end

section
open Go.RowKit Go.PlainAid
theorem overlapsA (a b : Addr) (la lb ca cb : Nat) (w : World) {xa xb : Array Value} {ta tb : TypeId} (hla : la ≠ 0) (hlb : lb ≠ 0) (hne : a.block ≠ b.block) (ha : w.heap[a.block]? = some (.cells xa ta (0, 0))) (hb : w.heap[b.block]? = some (.cells xb tb (0, 0))) :
    (callFunc 73 #[.slice (some a) la ca, .slice (some b) lb cb]).run Tryz.prog w = .ok (.value (.bool false)) w := by
  obtain ⟨i0, hi, hz0, hz1, hz2⟩ := info_au
  rw [run_callFunc_extern (fn := Tryz.f73) (e := Extern.SlicesOverlaps.overlaps #[22, 22] #[4]) (by kernel_rfl) (by kernel_rfl) (by kernel_rfl) (by kernel_rfl) (by kernel_rfl)]
  have key : ∀ (F : Option Addr → Nat → Nat → Option Addr → Nat → Nat → Sem Value) (G : Array Value → Sem Value) (a : Option Addr) (la ca : Nat) (b : Option Addr) (lb cb : Nat),
      Extern.SlicesOverlaps.overlaps.match_4 (fun _ => Sem Value) #[.slice a la ca, .slice b lb cb] F G = F a la ca b lb cb := fun _ _ _ _ _ _ _ _ => rfl
  delta Extern.SlicesOverlaps.overlaps
  rw [key]
  simp [run_underlying Tryz.underlying22, sizeOf, typeInfo, hi, hz1, hla, hlb, hne, World.frozen?, ha, hb, noView, viewAt, World.shape?, mayBeOne, stringish, Result.andThen]
theorem enc_cellsA {w : World} {bv : Nat} {enc : List Value} {t : TypeId} (h : w.heap[bv]? = some (.cells enc.toArray t (0, 0))) : ∀ j u, enc[j]? = some u → w.cell? ((⟨bv, 0, none⟩ : Addr).add j) = some u := by
  intro j u hj
  have hadd : (⟨bv, 0, none⟩ : Addr).add j = ⟨bv, j, none⟩ := by unfold Addr.add; split <;> simp_all
  rw [hadd, Lib.cell_of_heap h]
  simpa using hj

set_option maxHeartbeats 16000000 in
set_option maxRecDepth 100000 in
theorem insEndA (B : Nat) (v : Value) (n : Nat) (xs : List Value) (w : World) (h : w.ownsRow B 31 5 v n xs) (hvn : v ≠ .slice none 0 0) (hB : B ≤ w.heap.size) (hz : n ≤ 10000) (enc : List Value) (he : enc.length = 5) (he1 : ∀ u ∈ enc, u.oneCell' = true) (bv : Nat) (hbv : w.heap[bv]? = some (.cells enc.toArray 31 (0, 0))) :
    Calls Tryz.prog 44 #[v, .int .i64 (n : Int), .slice (some ⟨bv, 0, none⟩) 1 1] w fun e w' => ∃ v', e = .returned v' ∧ w'.ownsRow B 31 5 v' (n + 1) (xs ++ enc) ∧ w.grownBy w' v.ownBlock ∧ v' ≠ .slice none 0 0 ∧ (v'.ownBlock = v.ownBlock ∨ v'.ownBlock = some w.heap.size) := by
  obtain ⟨i0, hi, hz0, hz1, hz2⟩ := info_au
  have HI := Lib.hid hi
  have HI0 := Lib.hid hz0
  have HI1 := Lib.hid hz1
  have HI2 := Lib.hid hz2
  have HR := Lib.hid h
  have HS : RowKit.Hid (Src (.slice (some ⟨bv, 0, none⟩) 1 1) 1 enc w) := .inr ⟨⟨bv, 0, none⟩, 1, rfl, enc_cellsA hbv⟩
  have HE1 := Lib.hid he1
  have HV := Lib.hid hvn
  obtain ⟨ao, cp, rfl, hc, hm⟩ := own_form13 h
  have hne : ao ≠ none := by
    intro e
    subst e
    rcases h.2 with ⟨e, _⟩ | ⟨g, cap', cur, e, _⟩
    · exact hvn e
    · cases (Value.slice.inj e).1
  obtain ⟨ad, rfl⟩ := Option.ne_none_iff_exists'.1 hne
  unfold maxLen at hm
  have c1 : (0 : Int) ≤ (n : Int) := by omega
  have c2 : (n : Int) ≤ (n : Int) := by omega
  clear h hi hz0 hz1 hz2 he1 hbv hvn hne
  go_enter Tryz.func44, Tryz.ntmps44
  go_wp2_with (at_builtin; refine wpList_append_src _ rfl _ _ 22 rfl B 31 i0 (.agg #[.int .i64 0, .int .i64 0, .string ⟨#[]⟩, .slice none 0 0, .slice none 0 0]) 5 80 Tryz.underlying22 HI.out HI0.out HI1.out HI2.out rfl (by decide) (.slice (some ad) n cp) n xs rfl HR.out HV.out (.slice (some ⟨bv, 0, none⟩) 1 1) 1 enc rfl HS.out (by rw [he]) HE1.out (by unfold maxLen; omega) (by omega) hB ?_; intro v2 w2 h2 hg2 hn2 hl2)
  all_goals
    have H2 := Lib.hid h2
    have HG2 := Lib.hid hg2
    have HN2 := Lib.hid hn2
    have HL2 := Lib.hid hl2
    obtain ⟨ao2, cp2, rfl, -, -⟩ := own_form13 h2
    clear h2 hg2 hn2 hl2
    go_wp2
    go_ret
    exact ⟨_, rfl, H2.out, HG2.out, HN2.out, HL2.out⟩

set_option maxHeartbeats 16000000 in
set_option maxRecDepth 100000 in
theorem insRoomA (B g cap n k : Nat) (xs : List Value) (w : World) (h : w.ownsRow B 31 5 (.slice (some ⟨g, 0, none⟩) n cap) n xs) (hk : k < n) (hz : n ≤ 10000) (h1 : ∀ u ∈ xs, u.oneCell' = true) (hroom : n + 1 ≤ cap) (enc : List Value) (he : enc.length = 5) (he1 : ∀ u ∈ enc, u.oneCell' = true) (bv : Nat) (hbv : w.heap[bv]? = some (.cells enc.toArray 31 (0, 0))) (hne : bv ≠ g) :
    Calls Tryz.prog 44 #[.slice (some ⟨g, 0, none⟩) n cap, .int .i64 (k : Int), .slice (some ⟨bv, 0, none⟩) 1 1] w fun e w' => ∃ v', e = .returned v' ∧ w'.ownsRow B 31 5 v' (n + 1) (xs.take (k * 5) ++ (enc ++ xs.drop (k * 5))) ∧ w.grownBy w' (some g) ∧ v' ≠ .slice none 0 0 ∧ (v'.ownBlock = some g ∨ v'.ownBlock = some w.heap.size) := by
  have hxl := h.1
  rcases h.2 with ⟨h0, _⟩ | ⟨g', cap', cur, hv, hB, hg, hcap, hmax, hcs, htk⟩
  · cases h0
  obtain ⟨e1, -, e3⟩ := Value.slice.inj hv
  obtain rfl : g = g' := by simpa using e1
  subst e3
  obtain ⟨m, hm⟩ : ∃ m, n = k + 1 + m := ⟨n - (k + 1), by omega⟩
  subst hm
  unfold maxLen at hmax
  obtain ⟨cs, hcur⟩ : ∃ cs, cur.toList = cs := ⟨_, rfl⟩
  have hgc : w.heap[g]? = some (.cells cs.toArray 31 (0, 0)) := by rw [hg, ← hcur]
  have hcl : cs.length = cap * 5 := by
    rw [← hcur, Array.length_toList, hcs]
    all_goals omega
  rw [hcur] at htk
  obtain ⟨i0, hi, hz0, hz1, hz2⟩ := info_au
  have hnews : (xs.drop (k * 5)).length = (m + 1) * 5 := by rw [List.length_drop, hxl]; omega
  have holds : (xs.take (k * 5)).length = k * 5 := by rw [List.length_take, hxl]; omega
  have hw1 := heap_setCells13 (xs.drop (k * 5)) ((k + 1) * 5) w.drew cs (show w.drew.heap[g]? = _ from hgc) (by rw [hnews, hcl]; omega)
  have hl1 : (splice cs ((k + 1) * 5) (xs.drop (k * 5))).length = cap * 5 := by rw [length_splice _ _ _ (by rw [hnews, hcl]; omega), hcl]
  obtain ⟨w1, hw1e⟩ : ∃ w1, w.drew.setCells g ((k + 1) * 5) (xs.drop (k * 5)) = w1 := ⟨_, rfl⟩
  rw [hw1e] at hw1
  have hb1 : w.grownBy w1 (some g) := by rw [← hw1e]; exact setCells_grownA _ _ w w.drew ⟨rfl, rfl, rfl, Nat.le_refl _, fun _ _ _ => rfl⟩
  have hw2 := heap_setCells13 enc (k * 5) w1 _ hw1 (by rw [he, hl1]; omega)
  have hfin : (w1.setCells g (k * 5) enc).ownsRow B 31 5 (.slice (some ⟨g, 0, none⟩) (k + 1 + m + 1) cap) (k + 1 + m + 1) (xs.take (k * 5) ++ (enc ++ xs.drop (k * 5))) := by
    refine ⟨?_, .inr ⟨g, cap, _, rfl, hB, hw2, by omega, by unfold maxLen; omega, ?_, ?_⟩⟩
    · rw [List.length_append, List.length_append, holds, he, hnews]; omega
    · show (splice _ _ _).length = _
      rw [length_splice _ _ _ (by rw [he, hl1]; omega), hl1]
      all_goals omega
    · show (splice _ _ _).take _ = _
      have g1 : xs.take (k * 5) = cs.take (k * 5) := by
        rw [← htk, List.take_take]
        congr 1
        omega
      have g2 : (splice cs ((k + 1) * 5) (xs.drop (k * 5))).take (k * 5) = cs.take (k * 5) := take_lowA _ _ _ _ (by omega) (by rw [hcl]; omega)
      have g3 : (splice cs ((k + 1) * 5) (xs.drop (k * 5))).drop (k * 5 + 5) = xs.drop (k * 5) ++ cs.drop ((k + 1) * 5 + ((m + 1) * 5)) := by
        unfold splice
        rw [List.drop_append, List.drop_of_length_le (by rw [List.length_take, hcl]; omega), List.nil_append, List.length_take, hcl, hnews, show k * 5 + 5 - min ((k + 1) * 5) (cap * 5) = 0 by omega, List.drop_zero]
      conv => lhs; unfold splice
      rw [show List.take (k * 5) (List.take ((k + 1) * 5) cs ++ (List.drop (k * 5) xs ++ List.drop ((k + 1) * 5 + (List.drop (k * 5) xs).length) cs)) = cs.take (k * 5) from g2, he]
      rw [show List.drop (k * 5 + 5) (List.take ((k + 1) * 5) cs ++ (List.drop (k * 5) xs ++ List.drop ((k + 1) * 5 + (List.drop (k * 5) xs).length) cs)) = _ from g3, ← g1]
      rw [← List.append_assoc enc, ← List.append_assoc]
      refine List.take_left' ?_
      rw [List.length_append, List.length_append, he, hnews, holds]
      omega
  have Hfin := Lib.hid hfin
  have Hb2 : RowKit.Hid (w.grownBy (w1.setCells g (k * 5) enc) (some g)) := setCells_grownA enc _ w w1 hb1
  have hone : ∀ u ∈ xs.drop (k * 5), u.oneCell' = true := fun u hu => h1 u (List.mem_of_mem_drop hu)
  have hcell : ∀ j u, (xs.drop (k * 5))[j]? = some u → w.drew.cell? ((⟨g, k * 5, none⟩ : Addr).add j) = some u := by
    intro j u hj
    have hjl := (List.getElem?_eq_some_iff.1 hj).1
    rw [hnews] at hjl
    have hadd : (⟨g, k * 5, none⟩ : Addr).add j = ⟨g, k * 5 + j, none⟩ := by unfold Addr.add; split <;> simp_all
    rw [hadd]
    show w.cell? _ = _
    rw [Lib.cell_of_heap hgc]
    rw [List.getElem?_drop] at hj
    rw [← htk, List.getElem?_take_of_lt (by omega)] at hj
    simpa using hj
  have hspare : ∀ j, j < (xs.drop (k * 5)).length → (w.drew.cell? ⟨g, (k + 1) * 5 + j, none⟩).isSome = true ∧ w.drew.frozen? ⟨g, (k + 1) * 5 + j, none⟩ = false := by
    intro j hj
    rw [hnews] at hj
    refine ⟨?_, Lib.frozen_of_heap (show w.drew.heap[g]? = _ from hgc) _⟩
    show (w.cell? _).isSome = true
    rw [Lib.cell_of_heap hgc]
    have : (k + 1) * 5 + j < cs.length := by rw [hcl]; omega
    simp [this]
  have hbv1 : w1.heap[bv]? = some (.cells enc.toArray 31 (0, 0)) := by
    rw [← hw1e]
    exact (setCells_other13 hne _ _ _).trans hbv
  have hspare2 : ∀ j, j < enc.length → (w1.cell? ⟨g, k * 5 + j, none⟩).isSome = true ∧ w1.frozen? ⟨g, k * 5 + j, none⟩ = false := by
    intro j hj
    rw [he] at hj
    refine ⟨?_, Lib.frozen_of_heap hw1 _⟩
    rw [Lib.cell_of_heap hw1]
    have : k * 5 + j < (splice cs ((k + 1) * 5) (xs.drop (k * 5))).length := by rw [hl1]; omega
    simp [this]
  have hov : (callFunc 73 #[.slice (some ⟨bv, 0, none⟩) 1 1, .slice (some ⟨g, (k + 1) * 5, none⟩) (k + 1 + m - k) (cap - (k + 1))]).run Tryz.prog w = .ok (.value (.bool false)) w :=
    overlapsA ⟨bv, 0, none⟩ ⟨g, (k + 1) * 5, none⟩ 1 _ 1 _ w (by omega) (by omega) hne hbv hgc
  have HSz : RowKit.Hid ((Tryz.prog.info? 31).map (·.size) = some 5) := by unfold RowKit.Hid; rw [hi]; simp [hz1]
  have mn : RowKit.Hid ((xs.drop (k * 5)).length = Nat.min (k + 1 + m + 1 - k) (k + 1 + m - k) * 5) := by
    show _ = min _ _ * 5
    rw [hnews]
    omega
  have mn2 : RowKit.Hid (enc.length = Nat.min 1 (k + 1 + m + 1 - k) * 5) := by
    show _ = min _ _ * 5
    rw [he]
    omega
  have HOne := Lib.hid hone
  have HCell := Lib.hid hcell
  have HSpare := Lib.hid hspare
  have HSpare2 := Lib.hid hspare2
  have HO1 := Lib.hid (enc_cellsA hbv1)
  have HEnc1 := Lib.hid he1
  have HW1 := Lib.hid hw1e
  generalize xs.take (k * 5) = olds at *
  generalize xs.drop (k * 5) = news at *
  have c1 : (0 : Int) ≤ (k : Int) := by omega
  have c2 : (k : Int) ≤ (k : Int) + 1 + (m : Int) := by omega
  have c3 : ((k : Int) == (k : Int) + 1 + (m : Int)) = false := by simp; omega
  have c4 : decide ((k : Int) = (k : Int) + 1 + (m : Int)) = false := decide_eq_false (by omega)
  have c5 : ¬ ((k : Int) = (k : Int) + 1 + (m : Int)) := by omega
  have c6 : decide ((cap : Int) < (k : Int) + 1 + (m : Int) + 1) = false := decide_eq_false (by omega)
  have c7 : ¬ ((cap : Int) < (k : Int) + 1 + (m : Int) + 1) := by omega
  have c8 : (k : Int) + 1 + (m : Int) + 1 ≤ (cap : Int) := by omega
  have c9 : (0 : Int) ≤ (k : Int) + 1 + (m : Int) + 1 := by omega
  have c10 : (k : Int) + 1 ≤ (k : Int) + 1 + (m : Int) + 1 := by omega
  have c11 : (k : Int) ≤ (k : Int) + 1 + (m : Int) + 1 := by omega
  have c12 : (0 : Int) ≤ (k : Int) + 1 := by omega
  have n1 : ((k : Int) + 1).toNat = k + 1 := by omega
  have n2 : ((k : Int) + 1 + (m : Int) + 1).toNat = k + 1 + m + 1 := by omega
  have n3 : ¬ cap = k := by omega
  have n6 : IntKind.i64.wrap ((k : Int) + 1) = (k : Int) + 1 := by rw [IntKind.wrap_i64]; omega
  have n4 : ¬ cap = k + 1 := by omega
  have n5 : ¬ k = k + 1 + m := by omega
  clear hw1e hw1 hw2 hb1 hfin hl1 hnews holds hone hcell hspare hspare2 hi hz0 hz1 hz2 hg hgc hcl htk hcur hcs hxl h h1 hv e1 hbv hbv1 he he1
  go_enter Tryz.func44, Tryz.ntmps44
  go_upto_region 15 with fail
  have hcp : ∀ ty, (Builtin.copy_ #[22, 22] ty #[.slice (some ⟨g, k * 5, none⟩) (k + 1 + m + 1 - k) (cap - k), .slice (some ⟨bv, 0, none⟩) 1 1]).run Tryz.prog w1 = .ok (goInt (Nat.min 1 (k + 1 + m + 1 - k))) (w1.setCells g (k * 5) enc) :=
    fun ty => run_copy_st w1 _ _ ty 31 g (k * 5) _ _ ⟨bv, 0, none⟩ 1 1 5 enc Tryz.underlying22 HSz.out mn2.out HO1.out HSpare2.out HEnc1.out
  go_region_law (refine step_copy_st rfl (.tmp 73) (.tmp 76) 22 22 rfl 31 Tryz.underlying22 5 HSz.out g ((k + 1) * 5) (k + 1 + m - k) (cap - (k + 1)) ⟨g, k * 5, none⟩ (k + 1 + m + 1 - k) (cap - k) (by simp [Act.eval, Act.put]) (by simp [Act.eval, Act.put]) news mn.out HCell.out HSpare.out HOne.out ?_)
  all_goals
    rw [HW1.out]
    go_wp2
    go_ret
    exact ⟨_, rfl, Hfin.out, Hb2.out, (fun h => by cases h), .inl rfl⟩

set_option maxHeartbeats 16000000 in
set_option maxRecDepth 100000 in
theorem insGrowA (B g n k : Nat) (xs : List Value) (w : World) (h : w.ownsRow B 31 5 (.slice (some ⟨g, 0, none⟩) n n) n xs) (hB : B ≤ w.heap.size) (hk : k < n) (hz : n ≤ 10000) (h1 : ∀ u ∈ xs, u.oneCell' = true) (enc : List Value) (he : enc.length = 5) (he1 : ∀ u ∈ enc, u.oneCell' = true) (bv : Nat) (hbv : w.heap[bv]? = some (.cells enc.toArray 31 (0, 0))) :
    Calls Tryz.prog 44 #[.slice (some ⟨g, 0, none⟩) n n, .int .i64 (k : Int), .slice (some ⟨bv, 0, none⟩) 1 1] w fun e w' => ∃ v', e = .returned v' ∧ w'.ownsRow B 31 5 v' (n + 1) (xs.take (k * 5) ++ (enc ++ xs.drop (k * 5))) ∧ w.grownBy w' (some g) ∧ v' ≠ .slice none 0 0 ∧ (v'.ownBlock = some g ∨ v'.ownBlock = some w.heap.size) := by
  have hxl := h.1
  rcases h.2 with ⟨h0, _⟩ | ⟨g', cap', cur, hv, hBg, hg, hcap, hmaxn, hcs, htk⟩
  · cases h0
  obtain ⟨e1, -, e3⟩ := Value.slice.inj hv
  obtain rfl : g = g' := by simpa using e1
  obtain ⟨cs, hcur⟩ : ∃ cs, cur.toList = cs := ⟨_, rfl⟩
  have hgc : w.heap[g]? = some (.cells cs.toArray 31 (0, 0)) := by rw [hg, ← hcur]
  rw [hcur] at htk
  obtain ⟨m, hm⟩ : ∃ m, n = k + 1 + m := ⟨n - (k + 1), by omega⟩
  obtain ⟨i0, hi, hz0, hz1, hz2⟩ := info_au
  have HSz : RowKit.Hid ((Tryz.prog.info? 31).map (·.size) = some 5) := by unfold RowKit.Hid; rw [hi]; simp [hz1]
  have hnews : (xs.drop (k * 5)).length = (m + 1) * 5 := by rw [List.length_drop, hxl]; omega
  have holds : (xs.take (k * 5)).length = k * 5 := by rw [List.length_take, hxl]; omega
  have hat : ∀ j u, xs[j]? = some u → w.cell? ⟨g, j, none⟩ = some u := by
    intro j u hj
    have hjl := (List.getElem?_eq_some_iff.1 hj).1
    rw [Lib.cell_of_heap hgc]
    rw [← htk, List.getElem?_take_of_lt (by omega)] at hj
    simpa using hj
  have hgr := grownCap_ok w (k + (m + 2)) n 31 (by unfold maxLen; omega)
  have hap := run_append_mk (P := Tryz.prog) w 22 3 (z := .agg #[.int .i64 0, .int .i64 0, .string ⟨#[]⟩, .slice none 0 0, .slice none 0 0]) (ty := 22) (e := 31) (i := i0) Tryz.underlying22 Tryz.underlying3 hi hz0 ⟨g, 0, none⟩ k n (xs.take (k * 5)) (by rw [holds, hz1])
    (fun j v hj => by
      have hadd : (⟨g, 0, none⟩ : Addr).add j = ⟨g, j, none⟩ := by unfold Addr.add; split <;> simp_all
      rw [hadd]
      have hjl := (List.getElem?_eq_some_iff.1 hj).1
      rw [holds] at hjl
      exact hat j v (by rw [List.getElem?_take_of_lt hjl] at hj; exact hj)) (m + 2) (by rw [hz1]; omega) (by omega) (by omega) (by omega) (growslice_fits (by omega) (by rw [hz2]; omega))
  generalize grownCap w (k + (m + 2)) n 31 = cap at *
  obtain ⟨hge, hmax⟩ := hgr
  obtain ⟨cs0, hcs0⟩ : ∃ cs0 : List Value, cs0 = xs.take (k * 5) ++ ((Builtin.zeroCells #[.int .i64 0, .int .i64 0, .string ⟨#[]⟩, .slice none 0 0, .slice none 0 0] (m + 2)).toList ++ (Builtin.zeroCells #[.int .i64 0, .int .i64 0, .string ⟨#[]⟩, .slice none 0 0, .slice none 0 0] (cap - (k + (m + 2)))).toList) := ⟨_, rfl⟩
  have hl0 : cs0.length = cap * 5 := by
    have hz : ∀ n, (Builtin.zeroCells #[.int .i64 0, .int .i64 0, .string ⟨#[]⟩, .slice none 0 0, .slice none 0 0] n).size = n * 5 := fun n => by simp [Builtin.zeroCells]
    rw [hcs0, List.length_append, List.length_append, holds, Array.length_toList, Array.length_toList, hz, hz]
    omega
  have ht0 : cs0.take (k * 5) = xs.take (k * 5) := by rw [hcs0]; exact List.take_left' holds
  obtain ⟨w0, hw0⟩ : ∃ w0, w.drew.alloc (.cells cs0.toArray 31) = w0 := ⟨_, rfl⟩
  have hap2 : (Builtin.append_ #[22, 3] 22 #[.slice (some ⟨g, 0, none⟩) k (k + 1 + m), .int .i64 ((k : Int) + 1 + (m : Int) + 1 - (k : Int))]).run Tryz.prog w = .ok (.slice (some ⟨w.heap.size, 0, none⟩) (k + (m + 2)) cap) w0 := by
    rw [hm] at hap
    rw [show (k : Int) + 1 + (m : Int) + 1 - (k : Int) = ((m + 2 : Nat) : Int) by omega]
    rw [hap, ← hw0, hcs0]
    congr 4
    simp [Value.cells]
  have hg0 : w0.heap[w.heap.size]? = some (.cells cs0.toArray 31 (0, 0)) := by rw [← hw0]; exact heap_alloc_new w.drew _
  have hb0 : Below w.heap.size w w0 := by rw [← hw0]; exact (Below.refl w.heap.size w).drew.alloc (Nat.le_refl _) _
  have hgw : g < w.heap.size := (Array.getElem?_eq_some_iff.1 hgc).1
  have hbw : bv < w.heap.size := (Array.getElem?_eq_some_iff.1 hbv).1
  have hw1 := heap_setCells13 enc (k * 5) w0 cs0 hg0 (by rw [he, hl0]; omega)
  have hl1 : (splice cs0 (k * 5) enc).length = cap * 5 := by rw [length_splice _ _ _ (by rw [he, hl0]; omega), hl0]
  obtain ⟨w1, hw1e⟩ : ∃ w1, w0.setCells w.heap.size (k * 5) enc = w1 := ⟨_, rfl⟩
  rw [hw1e] at hw1
  have hb1 : Below w.heap.size w w1 := by rw [← hw1e]; exact setCells_below13 (Nat.le_refl _) _ _ _ _ hb0
  have hw2 := heap_setCells13 (xs.drop (k * 5)) ((k + 1) * 5) w1.drew _ (show w1.drew.heap[w.heap.size]? = _ from hw1) (by rw [hnews, hl1]; omega)
  have hfin : (w1.drew.setCells w.heap.size ((k + 1) * 5) (xs.drop (k * 5))).ownsRow B 31 5 (.slice (some ⟨w.heap.size, 0, none⟩) (k + 1 + m + 1) cap) (k + 1 + m + 1) (xs.take (k * 5) ++ (enc ++ xs.drop (k * 5))) := by
    refine ⟨?_, .inr ⟨w.heap.size, cap, _, rfl, hB, hw2, by omega, hmax, ?_, ?_⟩⟩
    · rw [List.length_append, List.length_append, holds, he, hnews]; omega
    · show (splice _ _ _).length = _
      rw [length_splice _ _ _ (by rw [hnews, hl1]; omega), hl1]
      all_goals omega
    · show (splice _ _ _).take _ = _
      have h3 := take_spliceA (splice cs0 (k * 5) enc) ((k + 1) * 5) (xs.drop (k * 5)) (by rw [hnews, hl1]; omega)
      have h2 := take_spliceA cs0 (k * 5) enc (by rw [he, hl0]; omega)
      rw [he, ht0] at h2
      have e5 : (k + 1) * 5 + (xs.drop (k * 5)).length = (k + 1 + m + 1) * 5 := by
        have := hnews
        omega
      rw [e5, show (k + 1) * 5 = k * 5 + 5 by omega, h2, List.append_assoc] at h3
      rw [show (k + 1) * 5 = k * 5 + 5 by omega]
      exact h3
  have Hfin := Lib.hid hfin
  have Hb2 : RowKit.Hid (w.grownBy (w1.drew.setCells w.heap.size ((k + 1) * 5) (xs.drop (k * 5))) (some g)) := by
    have hb := setCells_below13 (Nat.le_refl w.heap.size) (xs.drop (k * 5)) ((k + 1) * 5) w w1.drew hb1.drew
    exact ⟨hb.os, hb.tape, hb.output, hb.size, fun i hi _ => hb.block i hi⟩
  have hone : ∀ u ∈ xs.drop (k * 5), u.oneCell' = true := fun u hu => h1 u (List.mem_of_mem_drop hu)
  have hcell : ∀ j u, (xs.drop (k * 5))[j]? = some u → w1.drew.cell? ((⟨g, k * 5, none⟩ : Addr).add j) = some u := by
    intro j u hj
    have hadd : (⟨g, k * 5, none⟩ : Addr).add j = ⟨g, k * 5 + j, none⟩ := by unfold Addr.add; split <;> simp_all
    rw [hadd]
    exact (hb1.cell (p := ⟨g, k * 5 + j, none⟩) hgw).trans (hat (k * 5 + j) u (by rw [List.getElem?_drop] at hj; exact hj))
  have hspare : ∀ j, j < (xs.drop (k * 5)).length → (w1.drew.cell? ⟨w.heap.size, (k + 1) * 5 + j, none⟩).isSome = true ∧ w1.drew.frozen? ⟨w.heap.size, (k + 1) * 5 + j, none⟩ = false := by
    intro j hj
    rw [hnews] at hj
    have hw1d : w1.drew.heap[w.heap.size]? = _ := hw1
    refine ⟨?_, Lib.frozen_of_heap hw1d _⟩
    rw [Lib.cell_of_heap hw1d]
    have : (k + 1) * 5 + j < (splice cs0 (k * 5) enc).length := by rw [hl1]; omega
    simp [this]
  have hbv0 : w0.heap[bv]? = some (.cells enc.toArray 31 (0, 0)) := (hb0.block bv hbw).trans hbv
  have hspare2 : ∀ j, j < enc.length → (w0.cell? ⟨w.heap.size, k * 5 + j, none⟩).isSome = true ∧ w0.frozen? ⟨w.heap.size, k * 5 + j, none⟩ = false := by
    intro j hj
    rw [he] at hj
    refine ⟨?_, Lib.frozen_of_heap hg0 _⟩
    rw [Lib.cell_of_heap hg0]
    have : k * 5 + j < cs0.length := by rw [hl0]; omega
    simp [this]
  have mn : RowKit.Hid ((xs.drop (k * 5)).length = Nat.min (k + 1 + m - k) (k + (m + 2) - (k + 1)) * 5) := by
    show _ = min _ _ * 5
    rw [hnews]
    omega
  have mn2 : RowKit.Hid (enc.length = Nat.min 1 (m + 2) * 5) := by
    show _ = min _ _ * 5
    rw [he]
    omega
  have HAp := Lib.hid hap2
  clear hap2
  have HOne := Lib.hid hone
  have HCell := Lib.hid hcell
  have HSpare := Lib.hid hspare
  have hcp : ∀ ty, (Builtin.copy_ #[22, 22] ty #[.slice (some ⟨w.heap.size, k * 5, none⟩) (m + 2) (cap - k), .slice (some ⟨bv, 0, none⟩) 1 1]).run Tryz.prog w0 = .ok (goInt (Nat.min 1 (m + 2))) w1 :=
    fun ty => (run_copy_st w0 _ _ ty 31 w.heap.size (k * 5) _ _ ⟨bv, 0, none⟩ 1 1 5 enc Tryz.underlying22 HSz.out mn2.out (enc_cellsA hbv0) hspare2 he1).trans (by rw [hw1e])
  unfold maxLen at hmax
  subst hm
  generalize xs.take (k * 5) = olds at *
  generalize xs.drop (k * 5) = news at *
  have c1 : (0 : Int) ≤ (k : Int) := by omega
  have c2 : (k : Int) ≤ (k : Int) + 1 + (m : Int) := by omega
  have c3 : ((k : Int) == (k : Int) + 1 + (m : Int)) = false := by simp; omega
  have c5 : ¬ ((k : Int) = (k : Int) + 1 + (m : Int)) := by omega
  have c6 : decide ((k : Int) + 1 + (m : Int) < (k : Int) + 1 + (m : Int) + 1) = true := decide_eq_true (by omega)
  have c7 : (k : Int) + 1 + (m : Int) < (k : Int) + 1 + (m : Int) + 1 := by omega
  have n5 : ¬ k = k + 1 + m := by omega
  clear hw0 hw1e hw1 hw2 hb0 hb1 hfin hl0 hl1 hnews hone hcell hspare hspare2 hi hz0 hz1 hz2 hcs0 ht0 hg0 hap holds hg hgc htk hcur hcs hxl h h1 hv e1 e3 hbv hbv0 he he1 hat hgw hbw hcap hmaxn hBg
  go_enter Tryz.func44, Tryz.ntmps44
  have n4 : ¬ cap = k + 1 := by omega
  have n3 : ¬ cap = k := by omega
  go_upto_region 10 with (at_builtin; go_loud (refine wpList_append_run rfl _ _ 22 3 rfl _ _ rfl rfl HAp.out ?_))
  have c8 : (k : Int) ≤ (k : Int) + ((m : Int) + 2) := by omega
  have c9 : (k : Int) + 1 ≤ (k : Int) + ((m : Int) + 2) := by omega
  have c10 : (0 : Int) ≤ (k : Int) + 1 := by omega
  have n6 : IntKind.i64.wrap ((k : Int) + 1) = (k : Int) + 1 := by rw [IntKind.wrap_i64]; omega
  have n1 : ((k : Int) + 1).toNat = k + 1 := by omega
  have n7 : ¬ k + 1 + m = k := by omega
  go_upto_region 11 with fail
  go_region_law (refine step_copy_st rfl (.tmp 50) (.tmp 53) 22 22 rfl 31 Tryz.underlying22 5 HSz.out w.heap.size ((k + 1) * 5) (k + (m + 2) - (k + 1)) (cap - (k + 1)) ⟨g, k * 5, none⟩ (k + 1 + m - k) (k + 1 + m - k) (by simp [Act.eval, Act.put]) (by simp [Act.eval, Act.put]) news mn.out HCell.out HSpare.out HOne.out ?_)
  all_goals
    go_wp2
    go_ret
    exact ⟨_, rfl, by rw [show k + (m + 2) = k + 1 + m + 1 by omega]; exact Hfin.out, Hb2.out, (fun h => by cases h), .inr rfl⟩

/-- slices.Insert of one authority into a row of the call's own that isn't nil. -/
theorem insA_any (B : Nat) (v : Value) (n k : Nat) (xs : List Value) (w : World) (h : w.ownsRow B 31 5 v n xs) (hvn : v ≠ .slice none 0 0) (hB : B ≤ w.heap.size) (hk : k ≤ n) (hz : n ≤ 10000) (h1 : ∀ u ∈ xs, u.oneCell' = true) (enc : List Value) (he : enc.length = 5) (he1 : ∀ u ∈ enc, u.oneCell' = true) (bv : Nat) (hbv : w.heap[bv]? = some (.cells enc.toArray 31 (0, 0))) (hne : v.ownBlock ≠ some bv) :
    Calls Tryz.prog 44 #[v, .int .i64 (k : Int), .slice (some ⟨bv, 0, none⟩) 1 1] w fun e w' => ∃ v', e = .returned v' ∧ w'.ownsRow B 31 5 v' (n + 1) (xs.take (k * 5) ++ (enc ++ xs.drop (k * 5))) ∧ w.grownBy w' v.ownBlock ∧ v' ≠ .slice none 0 0 ∧ (v'.ownBlock = v.ownBlock ∨ v'.ownBlock = some w.heap.size) := by
  rcases Nat.lt_or_ge k n with hlt | hge
  · rcases id h.2 with ⟨h0, _⟩ | ⟨g, cap, cur, rfl, hBg, hg, hcap, hmax, _⟩
    · exact absurd h0 hvn
    · have hng : bv ≠ g := fun e => hne (by rw [e]; rfl)
      rcases Nat.lt_or_ge n cap with hroom | hfull
      · exact insRoomA B g cap n k xs w h hlt hz h1 hroom enc he he1 bv hbv hng
      · obtain rfl : cap = n := Nat.le_antisymm hfull hcap
        exact insGrowA B g cap k xs w h hB hlt hz h1 enc he he1 bv hbv
  · obtain rfl : k = n := by omega
    have hl := h.1
    rw [List.take_of_length_le (by omega), List.drop_of_length_le (by omega), List.append_nil]
    exact insEndA B v k xs w h hvn hB hz enc he he1 bv hbv
end

end Go.Proofs.YtmcolapcmjdoeaaGreatDoor
