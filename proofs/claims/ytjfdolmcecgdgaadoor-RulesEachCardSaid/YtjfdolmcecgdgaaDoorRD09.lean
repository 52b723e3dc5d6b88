/- libraryref09: Right. -/
import Derived.Test.YtjfdolmcecgdgaaDoorUD09
namespace Go.Proofs.YtjfdolmcecgdgaaDoor
open Go.RowKit Go.PlainAid

theorem leB_nil (t : List UInt8) (h : tagB t = true) : leB t [] = false := by
  unfold leB
  match t, h with
  | [], h => cases h
  | x :: r, _ => rfl
theorem errR_eq2 (before : List UInt8) (t : Rul) : errR false before t = if tagB t.tag = false then 6 else if leB t.tag before = true then 7 else if decide (t.codes = []) = true then 3 else if codesB t.codes = false then 3 else if codesB t.once = false then 3 else if codesB t.needs = false then 3 else if withinB t.codes t.once = false then 3 else if withinB t.codes t.needs = false then 3 else if t.auth < 0 ∨ 4 < t.auth then 1 else 0 := by
  unfold errR formB
  by_cases h : t.codes = []
  · simp [h]
  · cases codesB t.codes <;> cases codesB t.once <;> cases codesB t.needs <;> cases withinB t.codes t.once <;> cases withinB t.codes t.needs <;> simp [h]

set_option maxHeartbeats 16000000 in
set_option maxRecDepth 100000 in
theorem refRight9_any (l : List Rul) (v : Value) (w : World) (hv : TL v l w) (hz : ∀ i, i < l.length → smallT (l.getD i rul0)) (er : Int) (hb : rightL l = er) :
    Calls Tryd.prog 18 #[v] w fun e w' => e = .returned (.int .i64 er) ∧ Below w.heap.size w w' := by
  have HU := Lib.hid hv
  obtain ⟨a, cap, rfl, hcap, hmax⟩ := hv.length
  unfold maxLen at hmax
  obtain ⟨n, hn⟩ : ∃ n, l.length = n := ⟨_, rfl⟩
  rw [hn] at hcap HU ⊢
  have HN := Lib.hid hn
  have HZ := Lib.hid (fun i (hi : i < n) => hz i (by omega))
  have HEr := Lib.hid (fun k => (errAt_bef l k).trans (errR_eq2 _ _))
  by_cases hlong : 32 < n
  · obtain rfl : 13 = er := by rw [← hb]; exact (rightL_long l (by omega)).symm
    have d6 : decide ((32 : Int) < (n : Int)) = true := decide_eq_true (by omega)
    clear hlong hb hn hz hv
    go_enter Tryd.func18, Tryd.ntmps18
    go_wp2
    go_ret
    exact ⟨rfl, Below.refl _ _⟩
  have d6 : decide ((32 : Int) < (n : Int)) = false := decide_eq_false (by omega)
  have HHit := Lib.hid (fun k (hk : k < n) h he => (rightL_hit l (by omega) k (by omega) h he).symm.trans hb)
  have HMiss := Lib.hid (fun h => (rightL_miss l (by omega) h).symm.trans hb)
  have hn64 : n ≤ 32 := by omega
  have HRef := Lib.hid (Below.refl w.heap.size w)
  clear hlong hb hn hz hv
  go_enter Tryd.func18, Tryd.ntmps18
  go_wp2
  go_loopw [3] (fun i wr => ∃ k : Nat, k ≤ n ∧ i = .int .i64 (k : Int) ∧ RowKit.Hid (∀ j, j < k → errAt l j = 0) ∧ Below w.heap.size w wr) (fun i _ => n - (intOf i).toNat)
  case atStart => exact ⟨0, Nat.zero_le _, rfl, (fun j hj => by omega), HRef.out⟩
  case round =>
    obtain ⟨k, hk, rfl, HJ, hbw⟩ := hrel
    by_cases hkn : k < n
    · obtain ⟨g, o, cap', he, hg, hR⟩ := (HU.out.after hbw).at k (by rw [HN.out]; exact hkn)
      obtain ⟨ha, -, hcp⟩ := Value.slice.inj he
      subst ha hcp
      clear he
      obtain ⟨c0, c1, c2, c3, c4, c5, c6⟩ := hR
      have i1 : (0 : Int) ≤ (k : Int) := by omega
      have i2 : (k : Int) < (n : Int) := by omega
      obtain ⟨ee, hee⟩ : ∃ ee, errAt l k = ee := ⟨_, rfl⟩
      have hE := (HEr.out k).symm.trans hee
      obtain ⟨z0, z1, z2, z3⟩ := HZ.out k hkn
      obtain ⟨t, ht⟩ : ∃ t, l.getD k rul0 = t := ⟨_, rfl⟩
      rw [ht] at c0 c1 c2 c3 c4 c5 c6 hE z0 z1 z2 z3
      have ha := hbw.alloc hbw.size (.cells #[.string (S t.tag), .bool t.rep, .bool t.must, .string (S t.codes), .string (S t.once), .string (S t.needs), .int .i64 t.auth] 25)
      have hX := UB.new t wr
      obtain ⟨q0, h0⟩ : ∃ q, tagB t.tag = q := ⟨_, rfl⟩
      obtain ⟨q1, h1⟩ : ∃ q, leB t.tag (befL l k) = q := ⟨_, rfl⟩
      obtain ⟨q2, h2⟩ : ∃ q, decide (t.codes = []) = q := ⟨_, rfl⟩
      obtain ⟨q3, h3⟩ : ∃ q, codesB t.codes = q := ⟨_, rfl⟩
      obtain ⟨q4, h4⟩ : ∃ q, codesB t.once = q := ⟨_, rfl⟩
      obtain ⟨q5, h5⟩ : ∃ q, codesB t.needs = q := ⟨_, rfl⟩
      obtain ⟨q6, h6⟩ : ∃ q, withinB t.codes t.once = q := ⟨_, rfl⟩
      obtain ⟨q7, h7⟩ : ∃ q, withinB t.codes t.needs = q := ⟨_, rfl⟩
      have cT := Lib.hid (fun W => refTag9_any t.tag q0 h0 W)
      have cC := Lib.hid (fun W => refCodes_any t.codes z1 q3 h3 W)
      have cO := Lib.hid (fun W => refCodes_any t.once z2 q4 h4 W)
      have cN := Lib.hid (fun W => refCodes_any t.needs z3 q5 h5 W)
      have cW := Lib.hid (fun W => refWithin_any t.codes t.once z2 z1 q6 h6 W)
      have cV := Lib.hid (fun W => refWithin_any t.codes t.needs z3 z1 q7 h7 W)
      have HQ0 := Lib.hid (leB_nil t.tag)
      have HL := Lib.hid (le_bits t.tag)
      obtain ⟨he, he2⟩ := S_empty9 t.codes q2 h2
      rw [h0, h1, h2, h3, h4, h5, h6, h7] at hE
      have HE := Lib.hid hE
      have hTag : q0 = true → ∀ m, k = m + 1 → (leB t.tag (l.getD m rul0).tag = q1) := by
        intro _ m hm
        rw [← h1, hm]
        rfl
      have hZero : q0 = true → k = 0 → q1 = false := by
        intro hq hm
        rw [← h1, hm]
        exact HQ0.out (by rw [h0, hq])
      have HTag := Lib.hid hTag
      have HZero := Lib.hid hZero
      have HCl := Lib.hid (fun W (h : UB wr.heap.size t W) => h.cells)
      have HPrev := Lib.hid (fun W (hb : Below wr.heap.size wr W) m (hm : m < n) => ((HU.out.after hbw).after hb).at m (by rw [HN.out]; exact hm))
      clear h0 h1 h2 h3 h4 h5 h6 h7 hE z0 z1 z2 z3 hTag hZero HQ0
      obtain ⟨wa, hwa⟩ : ∃ wa, wr.alloc (.cells #[.string (S t.tag), .bool t.rep, .bool t.must, .string (S t.codes), .string (S t.once), .string (S t.needs), .int .i64 t.auth] 25) = wa := ⟨_, rfl⟩
      have hwa0 : Below wr.heap.size wr wa := by rw [← hwa]; exact (Below.refl _ _).alloc (Nat.le_refl _) _
      rw [hwa] at ha hX
      obtain ⟨y0, y1, y2, y3, y4, y5, y6⟩ := hX.cells
      have HWA := Lib.hid hwa
      have HA := Lib.hid ha
      have HX := Lib.hid hX
      have HA0 := Lib.hid hwa0
      have hHit := HHit.out k hkn HJ.out
      rw [hee] at hHit
      have HHitK := Lib.hid hHit
      have HJ2 : RowKit.Hid (ee = 0 → ∀ j, j < k + 1 → errAt l j = 0) := by
        intro h0 j hj
        rcases Nat.lt_or_ge j k with h | h
        · exact HJ.out j h
        · rw [show j = k by omega, hee]; exact h0
      clear hwa ha hX hwa0 hHit HJ hee HEr HHit
      obtain ⟨st, hst⟩ : ∃ s, S t.tag = s := ⟨_, rfl⟩
      obtain ⟨sc, hsc⟩ : ∃ s, S t.codes = s := ⟨_, rfl⟩
      obtain ⟨so, hso⟩ : ∃ s, S t.once = s := ⟨_, rfl⟩
      obtain ⟨sn, hsn⟩ : ∃ s, S t.needs = s := ⟨_, rfl⟩
      rw [hst] at c0 y0 HWA HCl cT HL
      rw [hsc] at c3 y3 HWA HCl cC cW cV he he2
      rw [hso] at c4 y4 HWA HCl cO cW
      rw [hsn] at c5 y5 HWA HCl cN cV
      clear hst hsc hso hsn ht
      obtain ⟨va, hva⟩ : ∃ v, t.auth = v := ⟨_, rfl⟩
      obtain ⟨vr, hvr⟩ : ∃ v, t.rep = v := ⟨_, rfl⟩
      obtain ⟨vm, hvm⟩ : ∃ v, t.must = v := ⟨_, rfl⟩
      rw [hva] at c6 y6 HWA HCl HE
      rw [hvr] at c1 y1 HWA HCl
      rw [hvm] at c2 y2 HWA HCl
      clear hva hvr hvm
      have hbwa := HA.out
      go_wp2_with fail
      rw [HWA.out]
      refine (cT.out wa).mono ?_
      rintro e w1 ⟨rfl, hw1⟩
      rw [hw1]
      clear hw1 cT c0 c1 c2 c3 c4 c5 c6
      cases q0
      · have h6 : 6 = ee := HE.out
        have hE6 : ee = er := HHitK.out (by omega)
        obtain rfl : 6 = er := h6.trans hE6
        clear h6 hE6
        go_wp2
        go_ret
        exact ⟨rfl, HA.out⟩
      go_upto_region 9 with fail
      go_cut [34] from 22 to 34 (fun s34 wy => s34 = .bool q1 ∧ Below wa.heap.size wa wy)
      case first =>
        rcases Nat.eq_zero_or_pos k with h0 | h0
        · obtain rfl : q1 = false := HZero.out trivial h0
          subst h0
          have d0 : decide ((0 : Int) < ((0 : Nat) : Int)) = false := rfl
          have d1 : ((0 : Nat) : Int) = 0 := rfl
          go_quiet (fail)
          all_goals (go_wp2_with fail; go_meet; exact ⟨rfl, below_drawn9 _ _ _ (Below.refl _ _)⟩)
        · obtain ⟨m, rfl⟩ : ∃ m, k = m + 1 := ⟨k - 1, by omega⟩
          have hle := HL.out (l.getD m rul0).tag
          rw [HTag.out trivial m rfl] at hle
          obtain ⟨g2, o2, cp2, he2', hg2, hR2⟩ := HPrev.out wa HA0.out m (by omega)
          obtain ⟨had, -, -⟩ := Value.slice.inj he2'
          simp only [Option.some.injEq, Addr.mk.injEq] at had
          obtain ⟨rfl, rfl, -⟩ := had
          clear he2'
          have e0 := hR2.c0
          clear hR2
          have i3 : (0 : Int) ≤ (m : Int) := by omega
          have i4 : (m : Int) < (n : Int) := by omega
          have i5 : (0 : Int) < (m : Int) + 1 := by omega
          have i7 : m < n := by omega
          generalize S (l.getD m rul0).tag = sp at *
          obtain ⟨rfl, l1, l2⟩ | ⟨rfl, l1⟩ | ⟨rfl, l1, l2⟩ := hle
          all_goals
            go_quiet (fail)
            all_goals (go_wp2_with fail; go_meet; exact ⟨rfl, below_drawn9 _ _ _ (Below.refl _ _)⟩)
      case rest =>
        obtain ⟨rfl, d⟩ := hcut
        have HX1 := Lib.hid (HX.out.after d)
        have b1 := HA.out.trans (d.mono HA.out.size)
        clear d y0 y1 y2 y3 y4 y5 y6 HX HA HPrev hbwa
        obtain ⟨k0, k1, k2, k3, k4, k5, k6⟩ := HCl.out _ HX1.out
        cases q1
        rotate_left
        · have h6 : 7 = ee := HE.out
          have hE6 : ee = er := HHitK.out (by omega)
          obtain rfl : 7 = er := h6.trans hE6
          clear h6 hE6
          go_wp2
          go_ret
          exact ⟨rfl, b1⟩
        have fail3 : (3 : Int) = ee → 3 = er := fun h => h.trans (HHitK.out (by omega))
        have FAIL3 := Lib.hid fail3
        clear fail3
        cases q2
        rotate_left
        · obtain rfl : 3 = er := FAIL3.out HE.out
          go_wp2
          go_ret
          exact ⟨rfl, b1⟩
        go_wp2_with fail
        refine (cC.out wc).mono ?_
        rintro e w1 ⟨rfl, d⟩
        have HX2 := Lib.hid (HX1.out.after d)
        have b2 := b1.trans (d.mono b1.size)
        clear d k0 k1 k2 k3 k4 k5 k6 b1 cC HX1
        cases q3
        · obtain rfl : 3 = er := FAIL3.out HE.out
          go_wp2
          go_ret
          exact ⟨rfl, b2⟩
        obtain ⟨k0, k1, k2, k3, k4, k5, k6⟩ := HCl.out _ HX2.out
        go_wp2_with fail
        refine (cO.out w1).mono ?_
        rintro e w2 ⟨rfl, d⟩
        have HX3 := Lib.hid (HX2.out.after d)
        have b3 := b2.trans (d.mono b2.size)
        clear d k0 k1 k2 k3 k4 k5 k6 b2 cO HX2
        cases q4
        · obtain rfl : 3 = er := FAIL3.out HE.out
          go_wp2
          go_ret
          exact ⟨rfl, b3⟩
        obtain ⟨k0, k1, k2, k3, k4, k5, k6⟩ := HCl.out _ HX3.out
        go_wp2_with fail
        refine (cN.out w2).mono ?_
        rintro e w3 ⟨rfl, d⟩
        have HX4 := Lib.hid (HX3.out.after d)
        have b4 := b3.trans (d.mono b3.size)
        clear d k0 k1 k2 k3 k4 k5 k6 b3 cN HX3
        cases q5
        · obtain rfl : 3 = er := FAIL3.out HE.out
          go_wp2
          go_ret
          exact ⟨rfl, b4⟩
        obtain ⟨k0, k1, k2, k3, k4, k5, k6⟩ := HCl.out _ HX4.out
        go_wp2_with fail
        refine (cW.out w3).mono ?_
        rintro e w4 ⟨rfl, hw4⟩
        rw [hw4]
        clear hw4 cW
        cases q6
        · obtain rfl : 3 = er := FAIL3.out HE.out
          go_wp2
          go_ret
          exact ⟨rfl, b4⟩
        go_wp2_with fail
        refine (cV.out w3).mono ?_
        rintro e w5 ⟨rfl, hw5⟩
        rw [hw5]
        clear hw5 cV
        cases q7
        · obtain rfl : 3 = er := FAIL3.out HE.out
          go_wp2
          go_ret
          exact ⟨rfl, b4⟩
        have hE : (if va < 0 ∨ 4 < va then (1 : Int) else 0) = ee := HE.out
        by_cases p0 : va < 0
        · rw [if_pos (.inl p0)] at hE
          obtain rfl : 1 = er := hE.trans (HHitK.out (by omega))
          have d0 : decide (va < 0) = true := decide_eq_true p0
          clear p0
          go_wp2
          go_ret
          exact ⟨rfl, b4⟩
        by_cases p1 : 4 < va
        · rw [if_pos (.inr p1)] at hE
          obtain rfl : 1 = er := hE.trans (HHitK.out (by omega))
          have d0 : decide (va < 0) = false := decide_eq_false p0
          have d1 : decide (4 < va) = true := decide_eq_true p1
          clear p0 p1
          go_wp2
          go_ret
          exact ⟨rfl, b4⟩
        rw [if_neg (fun h => h.elim p0 p1)] at hE
        have HJ3 := Lib.hid (HJ2.out hE.symm)
        have d0 : decide (va < 0) = false := decide_eq_false p0
        have d1 : decide (4 < va) = false := decide_eq_false p1
        clear p0 p1 hE HJ2
        go_wp2
        go_roundw
        case rel => exact ⟨k + 1, by omega, by go_num, HJ3, b4⟩
        case measure => simp [intOf]; omega
    · obtain rfl : k = n := by omega
      obtain rfl : 0 = er := HMiss.out (fun j hj => HJ.out j (by rw [HN.out] at hj; exact hj))
      go_wp2
      go_ret
      exact ⟨rfl, hbw⟩
end Go.Proofs.YtjfdolmcecgdgaaDoor
