/- Package money: Share, at every total and all weights. -/
import Derived.Test.YtbemenflkebpnaaDoorMA04
import Derived.Test.YtbemenflkebpnaaDoorMI04
import Derived.Deep.OwnRows
import Derived.Deep.CutBlock
import Derived.Deep.DeepCutAuto
namespace Go.Proofs.YtbemenflkebpnaaDoor
open Go.RowKit

set_option maxHeartbeats 8000000 in
theorem monShare_bad (t : Int) (v : Value) (l : List Int) (w : World) (hv : IL v l w) (hz : l.length ≤ 1000000) (h : okS t l = false) :
    Calls Tryd.prog 15 #[.int .i64 t, v] w fun e w' => e = .returned (.tuple #[.slice none 0 0, .int .i64 1]) ∧ w' = w := by
  obtain ⟨r, hr⟩ : ∃ r, sumS l = r := ⟨_, rfl⟩
  have c1 := Lib.hid (monSum_any v l w hv hz r hr)
  have hr0 := sumS_le l
  rw [hr] at hr0
  obtain ⟨a, cap, rfl, hc, _⟩ := hv
  rw [okS_sum, hr] at h
  cases ht : rightI t
  · have c2 := Lib.hid (fun W => monRight_any t false ht W)
    generalize l.length = n at *
    clear h ht
    go_enter Tryd.func15, Tryd.ntmps15
    go_wp2_with fail
    refine (c1.out).mono ?_
    rintro e w1 ⟨rfl, rfl⟩
    go_wp2_with fail
    refine (c2.out _).mono ?_
    rintro e w1 ⟨rfl, rfl⟩
    go_wp2
    go_ret2
    exact ⟨rfl, rfl⟩
  · have c2 := Lib.hid (fun W => monRight_any t true ht W)
    rw [ht, Bool.true_and] at h
    have h0 : r = 0 := by simpa using h
    subst h0
    generalize l.length = n at *
    clear h ht
    go_enter Tryd.func15, Tryd.ntmps15
    go_wp2_with fail
    refine (c1.out).mono ?_
    rintro e w1 ⟨rfl, rfl⟩
    go_wp2_with fail
    refine (c2.out _).mono ?_
    rintro e w1 ⟨rfl, rfl⟩
    go_wp2
    go_ret2
    exact ⟨rfl, rfl⟩

/-- Two fresh rows of zeros. -/
theorem PR_made {w wx : World} {gp gr n : Nat} (hb : Below w.heap.size w wx) (hne : gp ≠ gr) (lp : w.heap.size ≤ gp) (lr : w.heap.size ≤ gr)
    (hp : wx.heap[gp]? = some (.cells (madeCells #[.int .i64 0] n) 3 (0, 0))) (hr : wx.heap[gr]? = some (.cells (madeCells #[.int .i64 0] n) 3 (0, 0))) :
    PR w gp gr n (fun _ => 0) (fun _ => 0) wx := by
  have h : ∀ i, i < n → (madeCells #[.int .i64 0] n)[i]? = some (.int .i64 (0 : Int)) := by
    intro i hi
    have := toList_madeCells_one (.int .i64 0) n
    rw [← Array.getElem?_toList, this, List.getElem?_replicate, if_pos hi]
  exact ⟨hb, hne, lp, lr, ⟨_, hp, h⟩, ⟨_, hr, h⟩⟩
theorem IL_of_PRr {w wx : World} {gp gr n cp : Nat} {P R : Nat → Int} (h : PR w gp gr n P R wx) (hc : n ≤ cp) (l : List Int) (hl : l.length = n) (he : ∀ i (h : i < l.length), l[i] = R i) : IL (.slice (some ⟨gr, 0, none⟩) n cp) l wx := by
  obtain ⟨cur, h1, h2⟩ := h.rr
  refine ⟨some ⟨gr, 0, none⟩, cp, by rw [hl], by omega, fun i x hx => ⟨gr, 0, rfl, (Array.getElem?_eq_some_iff.1 h1).1, ?_⟩⟩
  obtain ⟨hi, rfl⟩ := List.getElem?_eq_some_iff.1 hx
  rw [Nat.zero_add, h.cr i (by omega), he i hi]

set_option maxHeartbeats 32000000 in
set_option maxRecDepth 100000 in
theorem monShare_ok (t : Nat) (v : Value) (l : List Int) (w : World) (hv : IL v l w) (ht : t ≤ 100000000) (h1 : 1 ≤ l.length) (h16 : l.length ≤ 16)
    (hg : ∀ i (h : i < l.length), okW l[i] = true) (hs : sumN (wN l) l.length ≠ 0) :
    Calls Tryd.prog 15 #[.int .i64 (t : Int), v] w fun e w' => ∃ v', e = .returned (.tuple #[v', .int .i64 0]) ∧ IL v' (shareL (t : Int) l) w' ∧ Below w.heap.size w w' := by
  have hS : sumS l = sumN (wN l) l.length := if_pos ⟨h16, (all_okW l).2 hg⟩
  have c1 := Lib.hid (monSum_any v l w hv (by omega) _ hS)
  obtain ⟨a, cap, rfl, hc, hcell⟩ := hv
  have c2 := Lib.hid (fun W => monRight_any (t : Int) true ((rightI_iff t).2 (by omega)) W)
  obtain ⟨n, hn⟩ : ∃ n, l.length = n := ⟨_, rfl⟩
  have hw : ∀ i, i < n → ∃ g o, a = some ⟨g, o, none⟩ ∧ g < w.heap.size ∧ w.cell? ⟨g, o + i, none⟩ = some (.int .i64 (wN l i : Nat)) ∧ wN l i ≤ 1000 := by
    intro i hi
    have hil : i < l.length := by omega
    obtain ⟨g, o, ha, hgl, hk⟩ := hcell i l[i] (List.getElem?_eq_getElem hil)
    have := okW_at l i hil (hg i hil)
    rw [this.1] at hk
    exact ⟨g, o, ha, hgl, hk, this.2⟩
  have HSh : RowKit.Hid (shareL (t : Int) l = (List.range n).map fun i => ((share t n (wN l) i : Nat) : Int)) := by unfold RowKit.Hid shareL; rw [hn, Int.toNat_natCast]
  rw [hn] at hc h1 h16 hs c1 ⊢
  have HW := Lib.hid hw
  have hs0 : 0 < sumN (wN l) n := Nat.pos_of_ne_zero hs
  have hsb : sumN (wN l) n ≤ 16000 := by
    have := sumW_le l n fun i hi => (hw i hi).choose_spec.choose_spec.2.2.2
    omega
  have HL := Lib.hid (left_mul t n (wN l) hs0)
  have HLt := Lib.hid (left_lt t n (wN l) hs0)
  clear hcell hg hw hs hn hS
  generalize shareL (t : Int) l = sl at HSh
  generalize wN l = wf at *
  obtain ⟨s, hS⟩ : ∃ s, sumN wf n = s := ⟨_, rfl⟩
  have HB : RowKit.Hid (∀ i, i < n → baseW t s (wf i) + sumN (fun i => baseW t s (wf i)) i ≤ t) := by
    intro i hi
    have h1 := HL.out.1
    have h2 := sumN_mono (fun i => baseW t (sumN wf n) (wf i)) (i + 1) n (by omega)
    rw [hS] at h1 h2
    have h3 : sumN (fun i => baseW t s (wf i)) (i + 1) = sumN (fun i => baseW t s (wf i)) i + baseW t s (wf i) := rfl
    omega
  have HLE : RowKit.Hid (leftN t n wf = t - sumN (fun i => baseW t s (wf i)) n) := by unfold RowKit.Hid leftN; rw [hS]
  have HSR : RowKit.Hid (∀ i, share t n wf i = baseW t s (wf i) + if marks (fun j => remW t s (wf j)) n (leftN t n wf) i = true then 1 else 0) := by intro i; unfold share; rw [hS]
  rw [hS] at hs0 hsb c1
  have t1 : ((s : Int) == 0) = false := by simp; omega
  have t2 : ¬ (s : Int) = 0 := by omega
  clear HL hS
  have hmk := run_make_row' (P := Tryd.prog) 29 3 (.int .i64 0) 8 Tryd.underlying29 infoInt rfl .i64 .i64 n (by omega) (by omega)
  have hb0 := Below.refl w.heap.size w
  go_enter Tryd.func15, Tryd.ntmps15
  go_wp2_with fail
  refine (c1.out).mono ?_
  rintro e w1 ⟨rfl, rfl⟩
  go_wp2_with fail
  refine (c2.out _).mono ?_
  rintro e w1 ⟨rfl, rfl⟩
  clear c1 c2
  go_wp2
  go_upto_region 4 with fail
  go_cut [7, 8] from 22 to 27 (fun p r wx => ∃ gp gr, p = .slice (some ⟨gp, 0, none⟩) n n ∧ r = .slice (some ⟨gr, 0, none⟩) n n ∧ PR w1 gp gr n (fun _ => 0) (fun _ => 0) wx)
  case first =>
    have hA : ∀ o1 o2 : Obj, Below w1.heap.size w1 ((w1.alloc o1).alloc o2).drew := fun o1 o2 => ((hb0.alloc (Nat.le_refl _) o1).alloc (by simp) o2).drew
    have hn0 : ∀ o1 o2 : Obj, ((w1.alloc o1).alloc o2).drew.heap[w1.heap.size]? = some o1 := fun o1 o2 => by
      show (w1.heap.push o1 |>.push o2)[w1.heap.size]? = some o1
      simp [Array.getElem?_push]
    have hn1 : ∀ o1 o2 : Obj, ((w1.alloc o1).alloc o2).drew.heap[w1.heap.size + 1]? = some o2 := fun o1 o2 => by
      have h := heap_alloc_new (w1.alloc o1) o2
      rwa [show (w1.alloc o1).heap.size = w1.heap.size + 1 by simp] at h
    have HA := Lib.hid hA
    have HN0 := Lib.hid hn0
    have HN1 := Lib.hid hn1
    clear hA hn0 hn1
    go_region
    · go_wp2_with fail
      go_meet
      exact ⟨_, _, rfl, rfl, PR_made (HA.out _ _) (by omega) (by omega) (by omega) (HN0.out _ _) (HN1.out _ _)⟩
    · go_wp2_with fail
      go_meet
      exact ⟨_, _, rfl, rfl, PR_made (HA.out _ _) (by omega) (by omega) (by omega) (HN1.out _ _) (HN0.out _ _)⟩
  case rest =>
    obtain ⟨gp, gr, rfl, rfl, hPR⟩ := hcut
    have i5 : (n : Int) ≤ (n : Int) := by omega
    go_wp2
    go_loopw [9, 31] (fun lf i wr => ∃ j : Nat, j ≤ n ∧ i = .int .i64 (j : Int) ∧ lf = .int .i64 ((t - sumN (fun i => baseW t s (wf i)) j : Nat) : Int) ∧ PR w1 gp gr n (fun i => if i < j then (baseW t s (wf i) : Nat) else 0) (fun i => if i < j then (remW t s (wf i) : Nat) else 0) wr) (fun _ i _ => n - (intOf i).toNat)
    case atStart => exact ⟨0, Nat.zero_le _, rfl, rfl, hPR.congr (fun i _ => by simp) (fun i _ => by simp)⟩
    case round =>
      obtain ⟨j, hj, rfl, rfl, hPR2⟩ := hrel
      clear hPR
      by_cases hlt : j < n
      · obtain ⟨g, o, rfl, hg, k0, hx2⟩ := HW.out j hlt
        have hk1 : wr.cell? ⟨g, o + j, none⟩ = some (.int .i64 (wf j : Nat)) := (hPR2.bel.cell (p := ⟨g, o + j, none⟩) hg).trans k0
        have hB := HB.out j hlt
        have HV : RowKit.Hid (t - sumN (fun i => baseW t s (wf i)) (j + 1) = t - sumN (fun i => baseW t s (wf i)) j - baseW t s (wf j)) := by
          unfold RowKit.Hid
          have : sumN (fun i => baseW t s (wf i)) (j + 1) = sumN (fun i => baseW t s (wf i)) j + baseW t s (wf j) := rfl
          omega
        have hpx : t * wf j ≤ 100000000000 := Nat.mul_le_mul ht hx2
        have hcx : (t : Int) * ((wf j : Nat) : Int) = ((t * wf j : Nat) : Int) := (Int.natCast_mul _ _).symm
        have q1 : Int.tdiv ((t * wf j : Nat) : Int) (s : Int) = (baseW t s (wf j) : Nat) := by rw [Int.tdiv_eq_ediv_of_nonneg (by omega)]; exact (Int.natCast_ediv _ _).symm
        have q2 : ((t * wf j : Nat) : Int) / (s : Int) = (baseW t s (wf j) : Nat) := (Int.natCast_ediv _ _).symm
        have m1 : Int.tmod ((t * wf j : Nat) : Int) (s : Int) = (remW t s (wf j) : Nat) := by rw [Int.tmod_eq_emod_of_nonneg (by omega)]; exact (Int.natCast_emod _ _).symm
        have m2 : ((t * wf j : Nat) : Int) % (s : Int) = (remW t s (wf j) : Nat) := (Int.natCast_emod _ _).symm
        have hbq : baseW t s (wf j) ≤ 100000000000 := Nat.le_trans (Nat.div_le_self _ _) hpx
        have hbr : remW t s (wf j) ≤ 16000 := by have : remW t s (wf j) < s := Nat.mod_lt _ hs0; omega
        obtain ⟨PP, hPP⟩ : ∃ PP : Nat → Int, PP = fun i => if i < j then ((baseW t s (wf i) : Nat) : Int) else 0 := ⟨_, rfl⟩
        obtain ⟨RR, hRR⟩ : ∃ RR : Nat → Int, RR = fun i => if i < j then ((remW t s (wf i) : Nat) : Int) else 0 := ⟨_, rfl⟩
        rw [← hPP, ← hRR] at hPR2
        have HP : RowKit.Hid (∀ W, PR w1 gp gr n (fun i => if i = j then (baseW t s (wf j) : Nat) else PP i) (fun i => if i = j then (remW t s (wf j) : Nat) else RR i) W → PR w1 gp gr n (fun i => if i < j + 1 then (baseW t s (wf i) : Nat) else 0) (fun i => if i < j + 1 then (remW t s (wf i) : Nat) else 0) W) := by
          intro W hW
          subst hPP
          subst hRR
          refine hW.congr (fun i hi => ?_) (fun i hi => ?_)
          · by_cases he : i = j
            · subst he; rw [if_pos (by omega), if_pos rfl]
            · rw [if_neg he]
              show (if i < j + 1 then ((baseW t s (wf i) : Nat) : Int) else 0) = if i < j then ((baseW t s (wf i) : Nat) : Int) else 0
              by_cases h2 : i < j
              · rw [if_pos h2, if_pos (by omega)]
              · rw [if_neg h2, if_neg (by omega)]
          · by_cases he : i = j
            · subst he; rw [if_pos (by omega), if_pos rfl]
            · rw [if_neg he]
              show (if i < j + 1 then ((remW t s (wf i) : Nat) : Int) else 0) = if i < j then ((remW t s (wf i) : Nat) : Int) else 0
              by_cases h2 : i < j
              · rw [if_pos h2, if_pos (by omega)]
              · rw [if_neg h2, if_neg (by omega)]
        clear hPP hRR
        generalize sumN (fun i => baseW t s (wf i)) j = sb at *
        have i1 : (0 : Int) ≤ (j : Int) := by omega
        have i2 : (j : Int) < (n : Int) := by omega
        have f1 := hPR2.fp j
        have f2 := hPR2.fr j
        have k2 := hPR2.cp j hlt
        have k3 := hPR2.cr j hlt
        have hX := hPR2.setP j (baseW t s (wf j) : Nat)
        have hY := hPR2.setR j (remW t s (wf j) : Nat)
        have f3 := hX.fr j
        have f4 := hY.fp j
        have k4 := hX.cr j hlt
        have k5 := hY.cp j hlt
        have HXX := Lib.hid (hX.setR j (remW t s (wf j) : Nat))
        have HYY := Lib.hid (hY.setP j (baseW t s (wf j) : Nat))
        clear hX hY
        generalize wf j = x at *
        generalize baseW t s x = q at *
        generalize remW t s x = m at *
        generalize t * x = tx at *
        generalize PP j = pj at *
        generalize RR j = rj at *
        go_upto_region 9 with fail
        go_cut [9] from 36 to 51 (fun s9 wx => s9 = .int .i64 ((t - sb : Nat) : Int) ∧ PR w1 gp gr n (fun i => if i = j then (q : Int) else PP i) (fun i => if i = j then (m : Int) else RR i) wx)
        case first =>
          go_region
          all_goals
            go_wp2_with fail
            go_meet
            first | exact ⟨rfl, HXX.out.drew⟩ | exact ⟨rfl, HYY.out.drew⟩
        case rest =>
          obtain ⟨rfl, hPR3⟩ := hcut
          have k6 := hPR3.cp j hlt
          rw [if_pos rfl] at k6
          have HN := Lib.hid (HP.out _ hPR3)
          have e1 : ((t - sb : Nat) : Int) - (q : Int) = ((t - sb - q : Nat) : Int) := by omega
          clear hPR2 hPR3 f1 f2 f3 f4 k2 k3 k4 k5 HXX HYY hk1 k0
          go_wp2
          go_roundw
          case rel => exact ⟨j + 1, by omega, by go_num, by rw [HV.out], HN.out⟩
          case measure => simp [intOf]; omega
      · obtain rfl : j = n := by omega
        rw [← HLE.out]
        have HLt2 := HLt.out
        have HB2 : RowKit.Hid (∀ i, i < j → baseW t s (wf i) ≤ t) := fun i hi => by have := HB.out i hi; omega
        have hPR3 : PR w1 gp gr j (fun i => (baseW t s (wf i) : Nat)) (fun i => (remW t s (wf i) : Nat)) wr := hPR2.congr (fun i hi => (if_pos hi).symm) (fun i hi => (if_pos hi).symm)
        clear hPR2 hb0 HB HLE HLt HW hj hlt hs0
        generalize leftN t j wf = L at *
        obtain ⟨rm, hrm⟩ : ∃ rm, (fun i => remW t s (wf i)) = rm := ⟨_, rfl⟩
        obtain ⟨bs, hbs⟩ : ∃ bs, (fun i => baseW t s (wf i)) = bs := ⟨_, rfl⟩
        have HSR2 : RowKit.Hid (∀ i, share t j wf i = bs i + if marks rm j L i = true then 1 else 0) := fun i => by rw [HSR.out i, hrm, ← hbs]
        have HB3 : RowKit.Hid (∀ i, i < j → bs i ≤ t) := fun i hi => by rw [← hbs]; exact HB2.out i hi
        have hPR2 : PR w1 gp gr j (fun i => (bs i : Int) + if marks rm j 0 i = true then 1 else 0) (restI rm j 0) wr := hPR3.congr (fun i _ => by rw [← hbs]; simp [marks]) (fun i _ => by rw [← hrm]; simp [restI, marks])
        clear hPR3 hrm hbs HSR HB2
        go_wp2
        go_loopw [60] (fun cv wr => ∃ c : Nat, c ≤ L ∧ cv = .int .i64 (c : Int) ∧ PR w1 gp gr j (fun i => (bs i : Int) + if marks rm j c i = true then 1 else 0) (restI rm j c) wr) (fun cv _ => L - (intOf cv).toNat)
        case atStart => exact ⟨0, Nat.zero_le _, rfl, hPR2⟩
        case round =>
          obtain ⟨c, hc, rfl, hPR⟩ := hrel
          clear hPR2
          by_cases hlt : c < L
          · have t3 : decide ((c : Int) < (L : Int)) = true := by simp; omega
            obtain ⟨q, hq, hmax⟩ := first_max (restI rm j c) j (by omega)
            have hIL := IL_of_PRr hPR (Nat.le_refl j) ((List.range j).map (restI rm j c)) (by simp) (fun i hi => by rw [List.getElem_map, List.getElem_range])
            have hat : ∀ i, i < j → ((List.range j).map (restI rm j c))[i]? = some (restI rm j c i) := fun i hi => by simp [hi]
            have hto : ∀ (i : Nat) y, ((List.range j).map (restI rm j c))[i]? = some y → i < j ∧ y = restI rm j c i := by
              intro i y hy
              obtain ⟨hi, rfl⟩ := List.getElem?_eq_some_iff.1 hy
              rw [List.getElem_map, List.getElem_range]
              exact ⟨by simpa using hi, rfl⟩
            have c1 := Lib.hid (slMax_any _ _ wr hIL (by simp; omega) q _ (hat q hq) (fun i y hy => by
              obtain ⟨hi, rfl⟩ := hto i y hy
              exact (hmax i hi).1))
            have c2 := Lib.hid (slIndex_any _ _ wr hIL (by simp; omega) q _ (hat q hq) (fun i hi y hy => by
              obtain ⟨hi2, rfl⟩ := hto i y hy
              have := (hmax i hi2).2 hi
              omega))
            obtain ⟨hM, hst⟩ := greedy rm j c q (by omega) (by omega) hmax
            have k1 := hPR.cp q (by omega)
            rw [hM] at k1
            have k1 : wr.cell? ⟨gp, q, none⟩ = some (.int .i64 (bs q : Nat)) := by rw [k1]; simp
            have f1 := hPR.fp q
            have hP4 := hPR.setP q ((bs q : Nat) + 1)
            have f2 := hP4.fr q
            have k2 := hP4.cr q (by omega)
            have hbq := HB3.out q (by omega)
            have HNew : RowKit.Hid (PR w1 gp gr j (fun i => (bs i : Int) + if marks rm j (c + 1) i = true then 1 else 0) (restI rm j (c + 1)) ((wr.setCell ⟨gp, q, none⟩ (.int .i64 ((bs q : Nat) + 1))).setCell ⟨gr, q, none⟩ (.int .i64 (-1)))) := by
              refine ((hPR.setP q ((bs q : Nat) + 1)).setR q (-1)).congr (fun i hi => ?_) (fun i hi => ?_)
              · rw [hst i hi]
                by_cases he : i = q
                · subst he
                  simp
                · rw [if_neg he, show (i == q) = false by simp; omega, Bool.or_false]
              · unfold restI
                rw [hst i hi]
                by_cases he : i = q
                · subst he
                  simp
                · rw [if_neg he, show (i == q) = false by simp; omega, Bool.or_false]
            have i1 : (0 : Int) ≤ (q : Int) := by omega
            have i2 : (q : Int) < (j : Int) := by omega
            clear hM hst hP4 hPR hIL hat hto hmax
            generalize bs q = x at *
            generalize restI rm j c q = y at *
            go_wp2_with fail
            refine (c1.out).mono ?_
            rintro e w2 ⟨rfl, rfl⟩
            go_wp2_with fail
            refine (c2.out).mono ?_
            rintro e w2 ⟨rfl, rfl⟩
            clear c1 c2
            go_wp2
            go_roundw
            case rel => exact ⟨c + 1, by omega, by go_num, HNew.out⟩
            case measure => simp [intOf]; omega
          · obtain rfl : c = L := by omega
            have t3 : decide ((c : Int) < (c : Int)) = false := by simp
            have hfin : IL (.slice (some ⟨gp, 0, none⟩) j j) sl wr := by
              rw [HSh.out]
              refine IL_of_PR hPR (Nat.le_refl j) _ (by simp) (fun i hi => ?_)
              rw [List.getElem_map, List.getElem_range, HSR2.out i]
              split <;> simp
            have hbel := hPR.bel
            clear hPR
            go_wp2
            go_ret2
            exact ⟨_, rfl, hfin, hbel⟩
end Go.Proofs.YtbemenflkebpnaaDoor
