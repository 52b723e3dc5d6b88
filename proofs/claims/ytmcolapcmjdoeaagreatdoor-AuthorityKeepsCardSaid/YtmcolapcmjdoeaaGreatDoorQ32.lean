/- Merged: QM13, QN13, DA13. -/
import Derived.Test.YtmcolapcmjdoeaaGreatDoorQ31
import Derived.Test.YtmcolapcmjdoeaaGreatDoorQ22
import Derived.Test.YtmcolapcmjdoeaaGreatDoorQ30
import Derived.Deep.RegionLaw
namespace Go.Proofs.YtmcolapcmjdoeaaGreatDoor

section
open Go.RowKit Go.PlainAid Go.Maps
theorem oneI_zero (a : Au) : oneI (some 0) a = oneI none a := by
  unfold oneI
  by_cases h : a.id < 1 ∨ 9999 < a.id
  · rw [if_pos h, if_pos h]
  · rw [if_neg h, if_neg h]
    have : ¬ a.id ≤ 0 := by omega
    simp [this]
theorem ones_bad (b : Option Int) (a : Au) (r : List Au) (h : oneI b a ≠ 0) : onesI b (a :: r) = oneI b a := by
  unfold onesI
  rw [if_pos h]
theorem ones_next (b : Option Int) (a : Au) (r : List Au) (h : oneI b a = 0) : onesI b (a :: r) = onesI (some a.id) r := by
  conv => lhs; unfold onesI
  rw [if_neg (fun g => g h)]
theorem mapI_getD (f : Au → Int) (L : List Au) (j : Nat) (h : j < L.length) : (L.map f).getD j 0 = f (L.getD j au0) := by
  simp [List.getD_eq_getElem?_getD, List.getElem?_eq_getElem h]

set_option maxHeartbeats 32000000 in
set_option maxRecDepth 100000 in
theorem right_any (v : Value) (L : List Au) (w : World) (hE : Env w) (hv : AL v L w) (hb : bnd L) :
    Calls Tryz.prog 15 #[v] w fun e w' => e = .returned (.int .i64 (rightA L)) ∧ Below w.heap.size w w' := by
  obtain ⟨Q, hQ⟩ : ∃ Q, (fun (e : Ending) (w' : World) => e = .returned (.int .i64 (rightA L)) ∧ Below w.heap.size w w') = Q := ⟨_, rfl⟩
  rw [hQ]
  have HQ : RowKit.Hid (∀ z : Int, rightA L = z → ∀ W, Below w.heap.size w W → Q (.returned (.int .i64 z)) W) := by
    intro z hz W hW
    rw [← hQ]
    exact ⟨by rw [hz], hW⟩
  have HEq := Lib.hid (right_eq L hb.1)
  have HV := Lib.hid hv
  have HE := Lib.hid (fun (W : World) (h : Below w.heap.size w W) => hE.after h)
  have HBnd := Lib.hid hb
  have hl64 := hb.1
  have cA := Lib.hid (fun (a : Au) (s t : Value) (bf : Int) (W : World) (ha : a ∈ L) (hq : AN a s t W) (h : Below w.heap.size w W) => rightAlone_any a s t bf W hq (Nat.le_trans (hb.2 a ha).1 (by decide)) (fun x hx => Nat.le_trans ((hb.2 a ha).2.2 x hx) (by decide)) (HE.out W h))
  have cD := Lib.hid (fun (W : World) (h : Below w.heap.size w W) (h1 : onesI none L = 0) => distinct_any v L W (HE.out W h) (hv.after h) (by omega) (ok_of L hb h1))
  have cB := Lib.hid (fun (a : Au) (s t : Value) (W : World) (ha : a ∈ L) (hq : AN a s t W) (h : Below w.heap.size w W) (h1 : onesI none L = 0) => rightAbove_any v L a s t W (hv.after h) (ones_out L none h1).1 (by omega) hq (Nat.le_trans (hb.2 a ha).2.1 (by decide)))
  have cL := Lib.hid (fun (W : World) (h : Below w.heap.size w W) (h1 : onesI none L = 0) (h2 : ∀ a ∈ L, abvE L a = 0) (q : Bool) (hq : (L.any fun a => decide (a.id ∈ aboveA L a.id)) = q) => looped_any v L W (hv.after h) (by omega) (ones_out L none h1).1 (fun a ha => ((ones_out L none h1).2.1 a ha).2) h2 q hq)
  obtain ⟨va, vc, rfl, hc1, hc2⟩ := hv.length
  obtain ⟨n, hn⟩ : ∃ n, L.length = n := ⟨_, rfl⟩
  have HN := Lib.hid hn
  rw [hn] at HV hc1 hl64 cD cB cL ⊢
  have HB0 := Lib.hid (Below.refl w.heap.size w)
  have t64 : decide ((64 : Int) < (n : Int)) = false := decide_eq_false (by omega)
  clear hQ hv hE hb hn
  go_enter Tryz.func15, Tryz.ntmps15
  go_wp2
  go_loopw [3, 15] (fun s3 s15 wr => ∃ (k : Nat) (bf : Int) (bo : Option Int), s15 = .int .i64 (k : Int) ∧ s3 = .int .i64 bf ∧ k ≤ n ∧ RowKit.Hid (bo = none ∧ bf = 0 ∨ bo = some bf) ∧ RowKit.Hid (onesI none L = onesI bo (L.drop k)) ∧ RowKit.Hid (Below w.heap.size w wr)) (fun _ s15 _ => n - (intOf s15).toNat)
  case atStart => exact ⟨0, 0, none, rfl, rfl, Nat.zero_le _, .inl ⟨rfl, rfl⟩, rfl, HB0.out⟩
  case round =>
    obtain ⟨k, bf, bo, rfl, rfl, hk, HBo, HO, HB⟩ := hrel
    clear HB0
    by_cases hkn : k < n
    · have i1 : (0 : Int) ≤ (k : Int) := by omega
      have i2 : (k : Int) < (n : Int) := by omega
      obtain ⟨g, o, cap', s, t, he, hg, c0, c1, c2, c3, c4, hq⟩ := (HV.out.after HB.out).at k (by rw [HN.out]; exact hkn)
      obtain ⟨rfl, -, hcp⟩ := Value.slice.inj he
      obtain ⟨a, ha⟩ : ∃ a, L.getD k au0 = a := ⟨_, rfl⟩
      have hmem : a ∈ L := by
        rw [← ha, getD_at13 L k (by rw [HN.out]; exact hkn)]
        exact List.getElem_mem _
      have hdr : L.drop k = a :: L.drop (k + 1) := by
        rw [List.drop_eq_getElem_cons (by rw [HN.out]; exact hkn), ← getD_at13 L k (by rw [HN.out]; exact hkn), ha]
      rw [ha] at c0 c1 c2 hq
      obtain ⟨Wb, hWb⟩ : ∃ W, wr.alloc (.cells #[.int .i64 a.id, .int .i64 a.kind, .string (S a.heading), s, t] 31) = W := ⟨_, rfl⟩
      have bb : Below wr.heap.size wr Wb := by rw [← hWb]; exact (Below.refl _ _).alloc (Nat.le_refl _) _
      have hRb : Wb.heap[wr.heap.size]? = some (.cells #[.int .i64 a.id, .int .i64 a.kind, .string (S a.heading), s, t] 31 (0, 0)) := by rw [← hWb]; exact heap_alloc_new wr _
      have hltb : wr.heap.size < Wb.heap.size := by rw [← hWb]; simp
      have HBb := Lib.hid (HB.out.trans (bb.mono HB.out.size))
      have cA2 := Lib.hid (cA.out a s t bf Wb hmem (hq.after bb) HBb.out)
      obtain ⟨as2, cs2, hs2, -, -⟩ := hq.1.length
      obtain ⟨at2, ct2, ht2, -⟩ := hq.2
      subst hs2 ht2
      obtain ⟨⟨y0, y1, y2, y3, y4⟩, -⟩ := acells hRb
      have HWb := Lib.hid hWb
      have HRb := Lib.hid hRb
      have hOne : oneI (some bf) a = oneI bo a := by
        rcases HBo.out with ⟨h1, h2⟩ | h1
        · rw [h1, h2]; exact oneI_zero a
        · rw [h1]
      have hO := HO.out
      rw [hdr] at hO
      obtain ⟨r, hr⟩ : ∃ r, oneI (some bf) a = r := ⟨_, rfl⟩
      have hr2 : oneI bo a = r := hOne.symm.trans hr
      rw [hr] at cA2
      unfold AV at cA2
      by_cases hr0 : r = 0
      · subst hr0
        rw [ones_next bo a _ hr2] at hO
        have HO2 := Lib.hid hO
        clear he hcp hq hWb bb hRb ha hr hr2 hO hOne hdr
        go_upto_region 7 with fail
        rw [HWb.out]
        clear c0 c1 c2 c3 c4
        go_wp2_with fail
        refine cA2.out.mono ?_
        rintro e w6 ⟨rfl, hb6⟩
        have HB6 := Lib.hid (HBb.out.trans (hb6.mono HBb.out.size))
        have hF6 := (hb6.block wr.heap.size hltb).trans HRb.out
        obtain ⟨⟨z0, z1, z2, z3, z4⟩, -⟩ := acells hF6
        clear hb6 hF6 y0 y1 y2 y3 y4
        go_wp2
        go_roundw
        case rel => exact ⟨k + 1, a.id, some a.id, by go_num, rfl, by omega, .inr rfl, HO2.out, HB6.out⟩
        case measure => simp [intOf]; omega
      · have hr3 : oneI bo a ≠ 0 := by rw [hr2]; exact hr0
        rw [ones_bad bo a _ hr3, hr2] at hO
        have hno := Lib.hid (fun W hW => HQ.out r (by rw [HEq.out, hO, if_pos hr0]) W hW)
        have t0 : (r == 0) = false := by simpa using hr0
        have t1 : (r != 0) = true := by simpa using hr0
        clear he hcp hq hWb bb hRb ha hr hr2 hr3 hO hOne hdr hr0
        go_upto_region 7 with fail
        rw [HWb.out]
        clear c0 c1 c2 c3 c4
        go_wp2_with fail
        refine cA2.out.mono ?_
        rintro e w6 ⟨rfl, hb6⟩
        have hno2 := hno.out w6 (HBb.out.trans (hb6.mono HBb.out.size))
        clear hb6 y0 y1 y2 y3 y4
        go_wp2
        first | exact hno2 | (go_ret; exact hno2)
    · obtain rfl : k = n := by omega
      have hO := HO.out
      rw [List.drop_of_length_le (by rw [HN.out]; exact Nat.le_refl _)] at hO
      have hones : onesI none L = 0 := hO
      have HOnes := Lib.hid hones
      have heq := HEq.out
      rw [hones] at heq
      have heq2 := heq.trans (if_neg (fun g => g rfl))
      have HEq2 := Lib.hid heq2
      have cD2 := Lib.hid (cD.out wr HB.out hones)
      clear hO hones heq heq2 HO HEq
      go_wp2_with fail
      refine cD2.out.mono ?_
      rintro e w2 ⟨rfl, hb2⟩
      have HB2 := Lib.hid (HB.out.trans (hb2.mono HB.out.size))
      clear hb2 cD cD2
      by_cases hnd : (keysX L).Nodup
      case neg =>
        have hno := HQ.out 7 (HEq2.out.trans (if_pos hnd)) w2 HB2.out
        have t1 : decide (keysX L).Nodup = false := decide_eq_false hnd
        rw [t1]
        go_wp2
        first | exact hno | (go_ret; exact hno)
      have t1 : decide (keysX L).Nodup = true := decide_eq_true hnd
      rw [t1]
      have heq3 := HEq2.out.trans (if_neg (fun g => g hnd))
      have HEq3 := Lib.hid heq3
      clear t1 heq3 HEq2
      go_wp2
      go_loopw [33] (fun s33 wt => ∃ j : Nat, s33 = .int .i64 (j : Int) ∧ j ≤ k ∧ RowKit.Hid (∀ i, i < j → abvE L (L.getD i au0) = 0) ∧ RowKit.Hid (Below w.heap.size w wt)) (fun s33 _ => k - (intOf s33).toNat)
      case atStart => exact ⟨0, rfl, Nat.zero_le _, (fun i hi => by omega), HB2.out⟩
      case round =>
        obtain ⟨j, rfl, hj, HJ, HBt⟩ := hrel
        by_cases hjn : j < k
        · have i1 : (0 : Int) ≤ (j : Int) := by omega
          have i2 : (j : Int) < (k : Int) := by omega
          obtain ⟨g, o, cap', s, t, he, hg, c0, c1, c2, c3, c4, hq⟩ := (HV.out.after HBt.out).at j (by rw [HN.out]; exact hjn)
          obtain ⟨rfl, -, hcp⟩ := Value.slice.inj he
          have HFirst : RowKit.Hid (abvE L (L.getD j au0) ≠ 0 → firstI (L.map (abvE L)) = abvE L (L.getD j au0)) := by
            intro h
            have := firstI_at (L.map (abvE L)) j (by rw [List.length_map, HN.out]; exact hjn) (fun i hi => by rw [mapI_getD _ _ i (by rw [HN.out]; omega)]; exact HJ.out i hi) (by rw [mapI_getD _ _ j (by rw [HN.out]; exact hjn)]; exact h)
            rw [this, mapI_getD _ _ j (by rw [HN.out]; exact hjn)]
          obtain ⟨a, ha⟩ : ∃ a, L.getD j au0 = a := ⟨_, rfl⟩
          have hmem : a ∈ L := by
            rw [← ha, getD_at13 L j (by rw [HN.out]; exact hjn)]
            exact List.getElem_mem _
          rw [ha] at c0 c1 c2 hq HFirst
          obtain ⟨Wb, hWb⟩ : ∃ W, wr.alloc (.cells #[.int .i64 a.id, .int .i64 a.kind, .string (S a.heading), s, t] 31) = W := ⟨_, rfl⟩
          have bb : Below wr.heap.size wr Wb := by rw [← hWb]; exact (Below.refl _ _).alloc (Nat.le_refl _) _
          have hRb : Wb.heap[wr.heap.size]? = some (.cells #[.int .i64 a.id, .int .i64 a.kind, .string (S a.heading), s, t] 31 (0, 0)) := by rw [← hWb]; exact heap_alloc_new wr _
          have HBb := Lib.hid (HBt.out.trans (bb.mono HBt.out.size))
          have cB2 := Lib.hid (cB.out a s t Wb hmem (hq.after bb) HBb.out HOnes.out)
          obtain ⟨as2, cs2, hs2, -, -⟩ := hq.1.length
          obtain ⟨at2, ct2, ht2, -⟩ := hq.2
          subst hs2 ht2
          obtain ⟨⟨y0, y1, y2, y3, y4⟩, -⟩ := acells hRb
          have HWb := Lib.hid hWb
          have HA := Lib.hid ha
          obtain ⟨r, hr⟩ : ∃ r, abvE L a = r := ⟨_, rfl⟩
          rw [hr] at cB2 HFirst
          have HR := Lib.hid hr
          unfold AV at cB2
          by_cases hr0 : r = 0
          · subst hr0
            have HJ2 : RowKit.Hid (∀ i, i < j + 1 → abvE L (L.getD i au0) = 0) := by
              intro i hi
              rcases Nat.lt_or_ge i j with h | h
              · exact HJ.out i h
              · rw [show i = j by omega, HA.out, HR.out]
            clear he hcp hq hWb bb hRb ha hr HFirst
            go_upto_region 17 with fail
            rw [HWb.out]
            clear c0 c1 c2 c3 c4
            go_wp2_with fail
            refine cB2.out.mono ?_
            rintro e w6 ⟨rfl, hb6⟩
            have HB6 := Lib.hid (HBb.out.trans (hb6.mono HBb.out.size))
            clear hb6 y0 y1 y2 y3 y4
            go_wp2
            go_roundw
            case rel => exact ⟨j + 1, by go_num, by omega, HJ2.out, HB6.out⟩
            case measure => simp [intOf]; omega
          · have hfi := HFirst.out hr0
            have heq4 : rightA L = r := by rw [HEq3.out, hfi, if_pos hr0]
            have hno := Lib.hid (fun W hW => HQ.out r heq4 W hW)
            have t0 : (r == 0) = false := by simpa using hr0
            have t1 : (r != 0) = true := by simpa using hr0
            clear he hcp hq hWb bb hRb ha hr HFirst hfi heq4 hr0
            go_upto_region 17 with fail
            rw [HWb.out]
            clear c0 c1 c2 c3 c4
            go_wp2_with fail
            refine cB2.out.mono ?_
            rintro e w6 ⟨rfl, hb6⟩
            have hno2 := hno.out w6 (HBb.out.trans (hb6.mono HBb.out.size))
            clear hb6 y0 y1 y2 y3 y4
            go_wp2
            first | exact hno2 | (go_ret; exact hno2)
        · obtain rfl : j = k := by omega
          have hall : ∀ a ∈ L, abvE L a = 0 := by
            intro a ha
            obtain ⟨i, hi, rfl⟩ := List.mem_iff_getElem.1 ha
            have := HJ.out i (by rw [HN.out] at hi; exact hi)
            rwa [getD_at13 L i hi] at this
          have hf0 : firstI (L.map (abvE L)) = 0 := firstI_zero _ (fun i hi => by
            rw [List.length_map] at hi
            rw [mapI_getD _ _ i hi]
            exact HJ.out i (by rw [HN.out] at hi; exact hi))
          have heq5 := HEq3.out
          rw [hf0] at heq5
          have heq6 := heq5.trans (if_neg (fun g => g rfl))
          have HEq6 := Lib.hid heq6
          obtain ⟨q, hq⟩ : ∃ q, (L.any fun a => decide (a.id ∈ aboveA L a.id)) = q := ⟨_, rfl⟩
          have cL2 := Lib.hid (cL.out wr HBt.out HOnes.out hall q hq)
          have hq' := HEq6.out
          rw [hq] at hq'
          have HQq := Lib.hid hq'
          clear hall hf0 heq5 heq6 hq hq' HEq6 HEq3 cL
          go_wp2_with fail
          refine cL2.out.mono ?_
          rintro e w6 ⟨rfl, hb6⟩
          have HB6 := Lib.hid (HBt.out.trans (hb6.mono HBt.out.size))
          clear hb6
          cases q with
          | true =>
            have hno := HQ.out 11 (HQq.out.trans (if_pos rfl)) w6 HB6.out
            go_wp2
            first | exact hno | (go_ret; exact hno)
          | false =>
            have hno := HQ.out 0 (HQq.out.trans (if_neg (by decide))) w6 HB6.out
            go_wp2
            first | exact hno | (go_ret; exact hno)
end

section
open Go.RowKit Go.PlainAid Go.Maps
theorem below_grown {w w' : World} (h : Below w.heap.size w w') (row : Option Nat) : w.grownBy w' row := ⟨h.os, h.tape, h.output, h.size, fun k hk _ => h.block k hk⟩
theorem check_fst (L : List Au) : (checkA L).2 = rightA L := by
  unfold checkA
  split
  · rename_i h; exact h.symm
  · rfl
set_option maxHeartbeats 8000000 in
theorem checked_any (v : Value) (L : List Au) (w : World) (hE : Env w) (hv : AL v L w) (hb : bnd L) (v' : Value) (hv' : (if rightA L = 0 then v else nilV) = v') :
    Calls Tryz.prog 43 #[v] w fun e w' => e = .returned (.tuple #[v', .int .i64 (checkA L).2]) ∧ Below w.heap.size w w' := by
  have cR := Lib.hid (right_any v L w hE hv hb)
  obtain ⟨va, vc, rfl, hc1, hc2⟩ := hv.length
  rw [check_fst]
  obtain ⟨r, hr⟩ : ∃ r, rightA L = r := ⟨_, rfl⟩
  rw [hr] at cR hv' ⊢
  generalize L.length = n at *
  clear hv hb hE hr hc1 hc2
  unfold nilV at hv'
  by_cases h0 : r = 0
  · subst h0
    rw [if_pos rfl] at hv'
    subst hv'
    go_enter Tryz.func43, Tryz.ntmps43
    go_wp2_with fail
    refine cR.out.mono ?_
    rintro e w1 ⟨rfl, hb1⟩
    go_wp2
    go_ret2
    exact ⟨rfl, hb1⟩
  · rw [if_neg h0] at hv'
    subst hv'
    have t0 : (r == 0) = false := by simpa using h0
    have t1 : (r != 0) = true := by simpa using h0
    clear h0
    go_enter Tryz.func43, Tryz.ntmps43
    go_wp2_with fail
    refine cR.out.mono ?_
    rintro e w1 ⟨rfl, hb1⟩
    go_wp2
    go_ret2
    exact ⟨rfl, hb1⟩
/-- What checked hands back of a file of the call's own. -/
theorem checked_al {B : Nat} {v : Value} {F : List Ent} {w : World} (h : FR B v F w) {v' : Value} (hv' : (if rightA (F.map (·.1)) = 0 then v else nilV) = v') : AL v' (checkA (F.map (·.1))).1 w := by
  unfold checkA
  by_cases h0 : rightA (F.map (·.1)) = 0
  · rw [if_pos h0] at hv' ⊢
    subst hv'
    exact h.al
  · rw [if_neg h0] at hv' ⊢
    subst hv'
    exact AL.nil w
theorem ent_at {F : List Ent} {L : List Au} (h : F.map (·.1) = L) (k : Nat) (hk : k < L.length) : ∃ x, F[k]? = some x ∧ x.1 = L.getD k au0 := by
  subst h
  rw [List.length_map] at hk
  refine ⟨F[k], List.getElem?_eq_getElem hk, ?_⟩
  rw [List.getD_eq_getElem?_getD, List.getElem?_map, List.getElem?_eq_getElem hk]
  rfl
theorem set_map (F : List Ent) (k : Nat) (y : Ent) (L : List Au) (h : F.map (·.1) = L) : (F.set k y).map (·.1) = L.set k y.1 := by rw [List.map_set, h]
theorem bnd_set {L : List Au} (h : bnd L) (k : Nat) (a : Au) (ha : a.see.length ≤ 100 ∧ a.above.length ≤ 100 ∧ ∀ x ∈ hdsX a, x.length ≤ 1000) : bnd (L.set k a) := by
  refine ⟨by rw [List.length_set]; exact h.1, fun b hb => ?_⟩
  rcases List.mem_or_eq_of_mem_set hb with hb | rfl
  · exact h.2 b hb
  · exact ha

set_option maxHeartbeats 16000000 in
set_option maxRecDepth 100000 in
theorem setAbove_any (v : Value) (L : List Au) (id : Int) (u : Value) (l : List Int) (w : World) (hE : Env w) (hv : AL v L w) (hu : IL u l w) (hb : bnd L) (hl : l.length ≤ 100) (hr : rightA L = 0) :
    Calls Tryz.prog 20 #[v, .int .i64 id, u] w fun e w' => ∃ v', e = .returned (.tuple #[v', .int .i64 (setA L id l).2]) ∧ AL v' (setA L id l).1 w' ∧ Below w.heap.size w w' := by
  obtain ⟨Q, hQ⟩ : ∃ Q, (fun (e : Ending) (w' : World) => ∃ v', e = .returned (.tuple #[v', .int .i64 (setA L id l).2]) ∧ AL v' (setA L id l).1 w' ∧ Below w.heap.size w w') = Q := ⟨_, rfl⟩
  rw [hQ]
  have HQ : RowKit.Hid (∀ v' r W, (setA L id l).2 = r → AL v' (setA L id l).1 W → Below w.heap.size w W → Q (.returned (.tuple #[v', .int .i64 r])) W) := by
    rw [← hQ]
    exact fun v' r W h0 h1 h2 => ⟨v', by rw [h0], h1, h2⟩
  obtain ⟨hbl, hbz⟩ := bnd_len hb
  have hasc := right_asc L hr
  have cP := Lib.hid (place_any v L id w hv hasc (by omega))
  have cA := Lib.hid (fun (W : World) (h : Below w.heap.size w W) => cloneAll_any v L W (hv.after h) hbl hbz)
  have cI := Lib.hid (fun (W : World) (h : Below w.heap.size w W) => cloneI_any l u W (hu.after h) (by omega))
  have cC := Lib.hid (fun (v : Value) (M : List Au) (W : World) (h : Below w.heap.size w W) (hv : AL v M W) (hb : bnd M) (v' : Value) (hv' : (if rightA M = 0 then v else nilV) = v') => checked_any v M W (hE.after h) hv hb v' hv')
  obtain ⟨va, vc, rfl, hc1, hc2⟩ := hv.length
  obtain ⟨ua, uc, rfl, -⟩ := hu
  cases hg : getA L id with
  | none =>
    have hs : setA L id l = ([], 9) := by unfold setA; rw [hg]
    rw [hg] at cP
    rw [hs] at HQ
    have hno := Lib.hid (fun W h => HQ.out (.slice none 0 0) 9 W rfl (AL.nil W) h)
    have hb0 : (Option.isSome (none : Option Au)) = false := rfl
    rw [hb0] at cP
    clear hQ HQ hs hg hE hv hb hr hasc cA cI cC hbl hbz hb0
    generalize plcA L id = k at *
    generalize L.length = n at *
    go_enter Tryz.func20, Tryz.ntmps20
    go_wp2_with fail
    refine cP.out.mono ?_
    rintro e w1 ⟨rfl, hb1⟩
    have hn := hno.out w1 hb1
    clear hb1
    go_wp2
    first | exact hn | (go_ret2; exact hn)
  | some a =>
    obtain ⟨hk1, hk2, hk3⟩ := get_plc_eq L id hasc a hg
    have hmem := (get_some L id a hg).1
    have hs : setA L id l = checkA (L.set (plcA L id) { a with above := l }) := by
      unfold setA
      rw [hg]
      show checkA (withA L { a with above := l }) = _
      rw [with_plc L { a with above := l } hasc (by show plcA L a.id < _; rw [hk3]; exact hk1) (by show (L.getD (plcA L a.id) au0).id = a.id; rw [hk3, hk2, hk3])]
      show checkA (L.set (plcA L a.id) _) = _
      rw [hk3]
    rw [hg] at cP
    have hb0 : (some a).isSome = true := rfl
    rw [hb0] at cP
    have hbs : bnd (L.set (plcA L id) { a with above := l }) := bnd_set hb _ _ ⟨(hb.2 a hmem).1, hl, (hb.2 a hmem).2.2⟩
    rw [hs] at HQ
    obtain ⟨k, hk⟩ : ∃ k, plcA L id = k := ⟨_, rfl⟩
    rw [hk] at cP hk1 hk2 hbs HQ
    have HBs := Lib.hid hbs
    have HK2 := Lib.hid hk2
    obtain ⟨n, hn⟩ : ∃ n, L.length = n := ⟨_, rfl⟩
    have HN := Lib.hid hn
    rw [hn] at cP cA hk1 ⊢
    have i1 : (0 : Int) ≤ (k : Int) := by omega
    have i2 : (k : Int) < (n : Int) := by omega
    clear hQ hs hg hE hv hb hr hasc hbl hbz hb0 hbs hk hk2 hn hmem hk3
    go_enter Tryz.func20, Tryz.ntmps20
    go_wp2_with fail
    refine cP.out.mono ?_
    rintro e w1 ⟨rfl, hb1⟩
    have HB1 := Lib.hid hb1
    have cA1 := Lib.hid (cA.out w1 hb1)
    clear hb1 cP
    go_wp2_with fail
    refine cA1.out.mono ?_
    rintro e w2 ⟨v2, F, rfl, hF2, hM2, hb2⟩
    have HB2 := Lib.hid (HB1.out.trans (hb2.mono HB1.out.size))
    have hl2 : F.length = n := by rw [← HN.out, ← hM2, List.length_map]
    have cI2 := Lib.hid (cI.out w2 HB2.out)
    obtain ⟨x, hx, hxa⟩ := ent_at hM2 k (by rw [HN.out]; exact hk1)
    rw [HK2.out] at hxa
    obtain ⟨g2, cap2, hv2, hg2, -⟩ := hF2.open k x hx
    subst hv2
    have HF2 := Lib.hid hF2
    have HM2 := Lib.hid hM2
    have HX := Lib.hid hx
    have HXa := Lib.hid hxa
    have HL2 := Lib.hid hl2
    have HG2 := Lib.hid hg2
    rw [hl2]
    clear hF2 hM2 hb2 hx hxa hg2 cA cA1
    go_wp2_with fail
    refine cI2.out.mono ?_
    rintro e w3 ⟨t3, rfl, ht3, hb3⟩
    have HB3 := Lib.hid (HB2.out.trans (hb3.mono HB2.out.size))
    have hsz21 : w1.heap.size ≤ w2.heap.size := by have := HF2.out.row; exact Nat.le_trans HG2.out (by
      rcases this.2 with ⟨h0, _⟩ | ⟨g, cap, cur, h0, _, hg, _⟩
      · cases h0
      · have e1 : g2 = g := by simpa using (Value.slice.inj h0).1
        subst e1
        exact Nat.le_of_lt (Array.getElem?_eq_some_iff.1 hg).1)
    have hP := HF2.out.putAbv k x HX.out (below_grown hb3 x.2.2.ownBlock) t3 l (ht3.base hsz21) (by
      cases ht : t3.ownBlock with
      | none => exact .inl rfl
      | some j => exact .inr (.inr ⟨j, rfl, (ht3.lt j ht).1⟩))
    have hF3 := HF2.out.after hb3
    obtain ⟨g3, cap3, e3, hg3, hgl3, -, -, ⟨d0, d1, d2, d3, d4⟩, hfz⟩ := hF3.open k x HX.out
    obtain rfl : g2 = g3 := by simpa using (Value.slice.inj e3).1
    have f4 := hfz (k * 5 + 4)
    obtain ⟨xt, hxt⟩ : ∃ q, x.2.2 = q := ⟨_, rfl⟩
    rw [hxt] at d4
    obtain ⟨ta, tc, rfl, -, -⟩ := own_form13 ht3
    obtain ⟨wx, hwx⟩ : ∃ W, w3.setCell ⟨g2, k * 5 + 4, none⟩ (.slice ta l.length tc) = W := ⟨_, rfl⟩
    rw [hwx] at hP
    have hBx : Below w.heap.size w wx := by
      rw [← hwx]
      exact HB3.out.setCell (p := ⟨g2, k * 5 + 4, none⟩) (Nat.le_trans HB1.out.size HG2.out) _
    have hMx : (F.set k ({ x.1 with above := l }, x.2.1, .slice ta l.length tc)).map (·.1) = L.set k { a with above := l } := by
      rw [set_map F k _ L HM2.out, HXa.out]
    obtain ⟨vx, hvx⟩ : ∃ q, (if rightA (L.set k { a with above := l }) = 0 then (.slice (some ⟨g2, 0, none⟩) F.length cap2) else nilV) = q := ⟨_, rfl⟩
    have hal := hP.al
    rw [hMx] at hal
    have cC2 := Lib.hid (cC.out _ _ wx hBx hal HBs.out vx hvx)
    have hfin : ∀ W, Below wx.heap.size wx W → Q (.returned (.tuple #[vx, .int .i64 (checkA (L.set k { a with above := l })).2])) W := by
      intro W hW
      refine HQ.out vx _ W rfl ?_ (hBx.trans (hW.mono hBx.size))
      have := checked_al (hP.after hW) (v' := vx) (by rw [hMx]; exact hvx)
      rwa [hMx] at this
    have HFin := Lib.hid hfin
    have HWx := Lib.hid hwx
    rw [HL2.out] at cC2
    clear hP hF3 e3 hg3 hgl3 hfz hwx hBx hMx hvx hal hfin ht3 hb3 hsz21 hxt d0 d1 d2 d3
    go_upto_region 6 with fail
    rw [HWx.out]
    go_wp2_with fail
    refine cC2.out.mono ?_
    rintro e w5 ⟨rfl, hb5⟩
    have hno := HFin.out w5 hb5
    clear hb5
    go_wp2
    first | exact hno | (go_ret2; exact hno)
end

section
open Go.RowKit Go.PlainAid
theorem run_clearA (w : World) (b o c : Nat) (hc : ∀ j, j < 5 → (w.cell? ⟨b, o + j, none⟩).isSome = true) (hf : ∀ j, j < 5 → w.frozen? ⟨b, o + j, none⟩ = false) :
    ∃ zs : List Value, zs.length = 5 ∧ ∀ ty, (Builtin.clear_ #[22] ty #[.slice (some ⟨b, o, none⟩) 1 c]).run Tryz.prog w = .ok (.tuple #[]) (w.setCells b o zs) := by
  obtain ⟨zs, hzs⟩ : ∃ zs, (Builtin.zeroCells #[.int .i64 0, .int .i64 0, .string ⟨#[]⟩, .slice none 0 0, .slice none 0 0] 1).toList = zs := ⟨_, rfl⟩
  have hl : zs.length = 5 := by rw [← hzs]; simp [Builtin.zeroCells]
  have hone : ∀ v ∈ zs, v.oneCell' = true := by
    intro v hv
    rw [← hzs] at hv
    simp only [Builtin.zeroCells, Array.toList_map, Array.toList_range, List.mem_map] at hv
    obtain ⟨i, _, rfl⟩ := hv
    have : i % 5 = 0 ∨ i % 5 = 1 ∨ i % 5 = 2 ∨ i % 5 = 3 ∨ i % 5 = 4 := by omega
    have hs : (#[.int .i64 0, .int .i64 0, .string ⟨#[]⟩, .slice none 0 0, .slice none 0 0] : Array Value).size = 5 := rfl
    rw [hs]
    rcases this with h | h | h | h | h <;> rw [h] <;> rfl
  refine ⟨zs, hl, fun ty => ?_⟩
  have hst := run_storeCells_cells (P := Tryz.prog) b o zs 0 w (by simpa [hl] using hc) (by simpa [hl] using hf) hone
  simp only [Nat.add_zero] at hst
  have hv : ∀ w, (zeroValue 31).run Tryz.prog w = .ok (.agg #[.int .i64 0, .int .i64 0, .string ⟨#[]⟩, .slice none 0 0, .slice none 0 0]) w := fun w => by kernel_rfl
  have hcells : (Value.cells (.agg #[.int .i64 0, .int .i64 0, .string ⟨#[]⟩, .slice none 0 0, .slice none 0 0])) = #[.int .i64 0, .int .i64 0, .string ⟨#[]⟩, .slice none 0 0, .slice none 0 0] := by rfl
  simp [Builtin.clear_, run_underlying Tryz.underlying22, hv, hcells, hzs, hst]
theorem take_spliceA {α : Type} (cs : List α) (o : Nat) (zs : List α) (h : o + zs.length ≤ cs.length) : (splice cs o zs).take (o + zs.length) = cs.take o ++ zs := by
  unfold splice
  rw [← List.append_assoc]
  exact List.take_left' (by rw [List.length_append, List.length_take]; omega)
theorem take_lowA {α : Type} (cs : List α) (o k : Nat) (zs : List α) (h : k ≤ o) (hl : o ≤ cs.length) : (splice cs o zs).take k = cs.take k := by
  unfold splice
  rw [List.take_append_of_le_length (by rw [List.length_take]; omega), List.take_take, Nat.min_eq_left h]
theorem setCells_grownA {g : Nat} (zs : List Value) (o : Nat) (w w1 : World) (h : w.grownBy w1 (some g)) : w.grownBy (w1.setCells g o zs) (some g) := by
  have hb := setCells_below13 (B := 0) (Nat.zero_le g) zs o w1 w1 (Below.refl 0 w1)
  refine ⟨hb.os.trans h.os, hb.tape.trans h.tape, hb.output.trans h.output, Nat.le_trans h.size hb.size, fun k hk hne => ?_⟩
  rw [setCells_other13 (fun e => hne (by rw [e])) zs o w1]
  exact h.block k hk hne

set_option maxHeartbeats 16000000 in
set_option maxRecDepth 100000 in
theorem delA_any (B : Nat) (v : Value) (n k : Nat) (xs : List Value) (w : World) (h : w.ownsRow B 31 5 v n xs) (hk : k < n) (hz : n ≤ 100000) (h1 : ∀ u ∈ xs, u.oneCell' = true) :
    Calls Tryz.prog 47 #[v, .int .i64 (k : Int), .int .i64 ((k : Int) + 1)] w fun e w' => ∃ v', e = .returned v' ∧ w'.ownsRow B 31 5 v' (n - 1) (xs.take (k * 5) ++ xs.drop ((k + 1) * 5)) ∧ w.grownBy w' v.ownBlock ∧ v'.ownBlock = v.ownBlock := by
  have hxl := h.1
  rcases h.2 with ⟨_, h0⟩ | ⟨g, cap, cur, rfl, hB, hg, hcap, hmax, hcs, htk⟩
  · omega
  obtain ⟨m, hm⟩ : ∃ m, n = k + 1 + m := ⟨n - (k + 1), by omega⟩
  subst hm
  unfold maxLen at hmax
  obtain ⟨cs, hcur⟩ : ∃ cs, cur.toList = cs := ⟨_, rfl⟩
  have hgc : w.heap[g]? = some (.cells cs.toArray 31 (0, 0)) := by rw [hg, ← hcur]
  have hcl : cs.length = cap * 5 := by rw [← hcur, Array.length_toList, hcs]
  rw [hcur] at htk
  obtain ⟨i0, hi, hz0, hz1, hz2⟩ := info_au
  have hnews : (xs.drop ((k + 1) * 5)).length = m * 5 := by rw [List.length_drop, hxl]; omega
  have hw1 := heap_setCells13 (xs.drop ((k + 1) * 5)) (k * 5) w.drew cs (show w.drew.heap[g]? = _ from hgc) (by rw [hnews, hcl]; omega)
  have hl1 : (splice cs (k * 5) (xs.drop ((k + 1) * 5))).length = cap * 5 := by rw [length_splice _ _ _ (by rw [hnews, hcl]; omega), hcl]
  have ht1 := take_spliceA cs (k * 5) (xs.drop ((k + 1) * 5)) (by rw [hnews, hcl]; omega)
  obtain ⟨w1, hw1e⟩ : ∃ w1, w.drew.setCells g (k * 5) (xs.drop ((k + 1) * 5)) = w1 := ⟨_, rfl⟩
  rw [hw1e] at hw1
  have hb1 : w.grownBy w1 (some g) := by rw [← hw1e]; exact setCells_grownA _ _ w w.drew ⟨rfl, rfl, rfl, Nat.le_refl _, fun _ _ _ => rfl⟩
  obtain ⟨zs, hzl, hrun⟩ := run_clearA w1 g ((k + m) * 5) (cap - (k + m)) (fun j hj => by
      rw [Lib.cell_of_heap hw1]
      have : (k + m) * 5 + j < (splice cs (k * 5) (xs.drop ((k + 1) * 5))).length := by rw [hl1]; omega
      simp [this]) (fun j hj => Lib.frozen_of_heap hw1 _)
  have hw2 := heap_setCells13 zs ((k + m) * 5) w1 _ hw1 (by rw [hzl, hl1]; omega)
  have hfin : (w1.setCells g ((k + m) * 5) zs).ownsRow B 31 5 (.slice (some ⟨g, 0, none⟩) (k + m) cap) (k + m) (xs.take (k * 5) ++ xs.drop ((k + 1) * 5)) := by
    refine ⟨?_, .inr ⟨g, cap, _, rfl, hB, hw2, by omega, by unfold maxLen; omega, ?_, ?_⟩⟩
    · rw [List.length_append, List.length_take, hnews, hxl]; omega
    · show (splice _ _ _).length = _
      rw [length_splice _ _ _ (by rw [hzl, hl1]; omega), hl1]
    · show (splice _ _ _).take _ = _
      rw [take_lowA _ _ _ _ (Nat.le_refl _) (by rw [hl1]; omega)]
      have e : (k + m) * 5 = k * 5 + (xs.drop ((k + 1) * 5)).length := by
        have := hnews
        omega
      rw [e, ht1]
      congr 1
      rw [← htk, List.take_take]
      congr 1
      omega
  have Hfin := Lib.hid hfin
  have Hb2 : RowKit.Hid (w.grownBy (w1.setCells g ((k + m) * 5) zs) (some g)) := setCells_grownA zs _ w w1 hb1
  have hone : ∀ u ∈ xs.drop ((k + 1) * 5), u.oneCell' = true := fun u hu => h1 u (List.mem_of_mem_drop hu)
  have hcell : ∀ ad : Addr, (0 < m → ad = ⟨g, (k + 1) * 5, none⟩) → ∀ j u, (xs.drop ((k + 1) * 5))[j]? = some u → w.drew.cell? (ad.add j) = some u := by
    intro ad hor j u hj
    have hjl := (List.getElem?_eq_some_iff.1 hj).1
    rw [hnews] at hjl
    obtain rfl := hor (by omega)
    have hadd : (⟨g, (k + 1) * 5, none⟩ : Addr).add j = ⟨g, (k + 1) * 5 + j, none⟩ := by unfold Addr.add; split <;> simp_all
    rw [hadd]
    show w.cell? _ = _
    rw [Lib.cell_of_heap hgc]
    rw [List.getElem?_drop] at hj
    rw [← htk, List.getElem?_take_of_lt (by omega)] at hj
    simpa using hj
  have hspare : ∀ j, j < (xs.drop ((k + 1) * 5)).length → (w.drew.cell? ⟨g, 0 + k * 5 + j, none⟩).isSome = true ∧ w.drew.frozen? ⟨g, 0 + k * 5 + j, none⟩ = false := by
    intro j hj
    rw [hnews] at hj
    refine ⟨?_, Lib.frozen_of_heap (show w.drew.heap[g]? = _ from hgc) _⟩
    show (w.cell? _).isSome = true
    rw [Lib.cell_of_heap hgc]
    have : 0 + k * 5 + j < cs.length := by rw [hcl]; omega
    simp only [Nat.zero_add] at this ⊢
    simp [this]
  have HI := Lib.hid hi
  have HZ1 := Lib.hid hz1
  have HNews : RowKit.Hid ((xs.drop ((k + 1) * 5)).length = m * 5) := by
    unfold RowKit.Hid
    have := hnews
    omega
  have HOne := Lib.hid hone
  have HCell := Lib.hid hcell
  have HSpare : RowKit.Hid (∀ j, j < (xs.drop ((k + 1) * 5)).length → (w.drew.cell? ⟨g, 0 + k * 5 + j, none⟩).isSome = true ∧ w.drew.frozen? ⟨g, 0 + k * 5 + j, none⟩ = false) := by unfold RowKit.Hid; exact hspare
  have HW1 := Lib.hid hw1e
  have hkm : k + 1 + m - 1 = k + m := by omega
  rw [hkm]
  generalize xs.take (k * 5) = olds at *
  generalize xs.drop ((k + 1) * 5) = news at *
  have c1 : (0 : Int) ≤ (k : Int) := by omega
  have c2 : (k : Int) ≤ (k : Int) + 1 := by omega
  have c3 : (k : Int) + 1 ≤ (k : Int) + 1 + (m : Int) := by omega
  have c4 : (k : Int) + 1 + (m : Int) ≤ (cap : Int) := by omega
  have c5 : (k : Int) ≤ (cap : Int) := by omega
  have c6 : (k : Int) + (m : Int) ≤ (k : Int) + 1 + (m : Int) := by omega
  have c7 : ¬ ((k : Int) = (k : Int) + 1) := by omega
  clear hw1e hw1 hw2 hb1 hfin hl1 ht1 hnews hone hcell hspare hi hz0 hz1 hz2 hg hgc hcl htk hcur hcs hxl h h1 hkm
  have p2 : ((k : Int) + 1).toNat = k + 1 := by omega
  have c8 : (0 : Int) ≤ (k : Int) + 1 := by omega
  have p3 : k + 1 + m - (k + 1) = m := by omega
  by_cases hck : cap = k + 1
  · have hm0 : m = 0 := by omega
    subst hm0
    subst hck
    have hrun : ∀ ty, (Builtin.clear_ #[22] ty #[.slice (some ⟨g, k * 5, none⟩) 1 1]).run Tryz.prog w1 = .ok (.tuple #[]) (w1.setCells g (k * 5) zs) := by
      have := hrun
      rw [Nat.add_zero, show k + 1 - k = 1 by omega] at this
      exact this
    go_enter Tryz.func47, Tryz.ntmps47
    go_upto_region 5 with fail
    go_region_law (refine step_append_room rfl (.tmp 22) (.tmp 25) 22 rfl 31 i0 5 Tryz.underlying22 HI.out HZ1.out g 0 k (k + 1) (by simp [Act.eval, Act.put]) ⟨g, 0, none⟩ 0 0 news (by simp [Act.eval, Act.put]) HNews.out (HCell.out _ (by omega)) HOne.out (by omega) HSpare.out ?_)
    all_goals
      rw [HW1.out]
      go_wp2
      go_ret
      exact ⟨_, rfl, Hfin.out, Hb2.out, rfl⟩
  · have hrun : ∀ ty, (Builtin.clear_ #[22] ty #[.slice (some ⟨g, (k + m) * 5, none⟩) (k + 1 + m - (k + m)) (cap - (k + m))]).run Tryz.prog w1 = .ok (.tuple #[]) (w1.setCells g ((k + m) * 5) zs) := by
      rw [show k + 1 + m - (k + m) = 1 by omega]
      exact hrun
    go_enter Tryz.func47, Tryz.ntmps47
    go_upto_region 5 with fail
    go_region_law (refine step_append_room rfl (.tmp 22) (.tmp 25) 22 rfl 31 i0 5 Tryz.underlying22 HI.out HZ1.out g 0 k cap (by simp [Act.eval, Act.put]) ⟨g, (k + 1) * 5, none⟩ m (cap - (k + 1)) news (by simp [Act.eval, Act.put]) HNews.out (HCell.out _ (fun _ => rfl)) HOne.out (by omega) HSpare.out ?_)
    all_goals
      rw [HW1.out]
      go_wp2
      go_ret
      exact ⟨_, rfl, Hfin.out, Hb2.out, rfl⟩
end

end Go.Proofs.YtmcolapcmjdoeaaGreatDoor
