/- Merged: KA15. -/
import Derived.Test.YtfjfpefpdlecbaaGreatDoorQ15
import Derived.Test.YtfjfpefpdlecbaaGreatDoorQ31
namespace Go.Proofs.YtfjfpefpdlecbaaGreatDoor

section
open Go.RowKit Go.PlainAid
def valueB : List UInt8 := [118, 97, 108, 117, 101]
/-- The field that stands for a match key. -/
def placeF (k : MKey) : Fld := ⟨k.tag, [32, 32], [(k.code, valueB)], 0⟩
theorem place_right (k : MKey) : rightI (placeF k) = if tagB k.tag = false then 6 else if codeB k.code = false then 1 else 0 := by
  unfold rightI placeF
  have h1 : indsB [32, 32] = true := by decide
  have h2 : ([] : List UInt8) ≠ valueB := by decide
  have h3 : validT valueB = true := by decide
  simp only [h1, List.length_singleton, firstE, subE, h3]
  by_cases ht : tagB k.tag = false
  · rw [if_pos ht, if_pos ht]
  · rw [if_neg ht, if_neg ht]
    by_cases hc : codeB k.code = false
    · simp [hc]
    · simp [hc, valueB]
theorem keyE_place (k : MKey) : keyE k = if rightI (placeF k) ≠ 0 then rightI (placeF k) else if k.norm < 0 ∨ 4 < k.norm ∨ k.weight < 1 ∨ 100 < k.weight then 2 else 0 := by
  rw [place_right]
  unfold keyE
  by_cases ht : tagB k.tag = false
  · rw [if_pos ht, if_pos ht, if_pos (by decide)]
  · rw [if_neg ht, if_neg ht]
    by_cases hc : codeB k.code = false
    · rw [if_pos hc, if_pos hc, if_pos (by decide)]
    · rw [if_neg hc, if_neg hc]
      simp
theorem QL.one15 (w : World) (b : Nat) (s : Sub) (h : w.heap[b]? = some (.cells #[.int .u8 (s.1.toNat : Int), .string (S s.2)] 70 (0, 0))) : QL (.slice (some ⟨b, 0, none⟩) 1 1) [s] w := by
  refine ⟨_, 1, rfl, Nat.le_refl _, by unfold maxLen; decide, (fun h => by cases h), fun i hi => ?_⟩
  obtain rfl : i = 0 := by simpa using hi
  refine ⟨b, 0, rfl, (Array.getElem?_eq_some_iff.1 h).1, ?_, ?_⟩ <;> rw [Lib.cell_of_heap h] <;> rfl

set_option maxHeartbeats 16000000 in
set_option maxRecDepth 100000 in
theorem prightKey_any (k : MKey) (w : World) (hE : Env w) :
    Calls Tryz.prog 31 #[KV k] w fun e w' => e = .returned (.int .i64 (keyE k)) ∧ Below w.heap.size w w' := by
  obtain ⟨Q, hQ⟩ : ∃ Q, (fun (e : Ending) (w' : World) => e = .returned (.int .i64 (keyE k)) ∧ Below w.heap.size w w') = Q := ⟨_, rfl⟩
  rw [hQ]
  obtain ⟨W0, hW0⟩ : ∃ W0, w.alloc (.cells #[.string (S k.tag), .int .u8 (k.code.toNat : Int), .int .i64 k.norm, .int .i64 k.weight] 39) = W0 := ⟨_, rfl⟩
  obtain ⟨W2, hW2⟩ : ∃ W2, (W0.alloc (.cells #[.int .u8 (k.code.toNat : Int), .string ⟨#[118, 97, 108, 117, 101]⟩] 70)).alloc (.cells #[.string (S k.tag), .string ⟨#[32, 32]⟩, .slice (some ⟨W0.heap.size, 0, none⟩) 1 1, .int .i64 0] 57) = W2 := ⟨_, rfl⟩
  have b0 : Below w.heap.size w W0 := by rw [← hW0]; exact (Below.refl w.heap.size w).alloc (Nat.le_refl _) _
  have b2 : Below W0.heap.size W0 W2 := by rw [← hW2]; exact ((Below.refl W0.heap.size W0).alloc (Nat.le_refl _) _).alloc (by simp) _
  have b02 : Below w.heap.size w W2 := b0.trans (b2.mono b0.size)
  have hK0 : W0.heap[w.heap.size]? = some (.cells #[.string (S k.tag), .int .u8 (k.code.toNat : Int), .int .i64 k.norm, .int .i64 k.weight] 39 (0, 0)) := by rw [← hW0]; exact heap_alloc_new w _
  have hlt : w.heap.size < W0.heap.size := by rw [← hW0]; simp
  have hK : W2.heap[w.heap.size]? = some (.cells #[.string (S k.tag), .int .u8 (k.code.toNat : Int), .int .i64 k.norm, .int .i64 k.weight] 39 (0, 0)) := (b2.block _ hlt).trans hK0
  have hS : W2.heap[W0.heap.size]? = some (.cells #[.int .u8 (k.code.toNat : Int), .string ⟨#[118, 97, 108, 117, 101]⟩] 70 (0, 0)) := by
    rw [← hW2]
    exact (Below.heap_alloc _ _ _ (by simp)).trans (heap_alloc_new W0 _)
  have hF : W2.heap[W0.heap.size + 1]? = some (.cells #[.string (S k.tag), .string ⟨#[32, 32]⟩, .slice (some ⟨W0.heap.size, 0, none⟩) 1 1, .int .i64 0] 57 (0, 0)) := by
    rw [← hW2]
    have := heap_alloc_new (W0.alloc (.cells #[.int .u8 (k.code.toNat : Int), .string ⟨#[118, 97, 108, 117, 101]⟩] 70)) (.cells #[.string (S k.tag), .string ⟨#[32, 32]⟩, .slice (some ⟨W0.heap.size, 0, none⟩) 1 1, .int .i64 0] 57)
    simpa using this
  obtain ⟨z0, z1, z2, z3⟩ := kcells4 hF
  have hq : QL (.slice (some ⟨W0.heap.size, 0, none⟩) 1 1) (placeF k).subs W2 := QL.one15 W2 W0.heap.size (k.code, valueB) hS
  have cR := Lib.hid (fRight_any (placeF k) _ W2 (hE.after b02) hq (fun i hi => by
    obtain rfl : i = 0 := by simpa [placeF] using hi
    show valueB.length ≤ 1000000
    decide) _ rfl)
  have HQ : RowKit.Hid (∀ (e : Int) W, keyE k = e → Below W2.heap.size W2 W → Q (.returned (.int .i64 e)) W) := by
    rintro e W rfl hW
    rw [← hQ]
    exact ⟨rfl, b02.trans (hW.mono b02.size)⟩
  have hke := keyE_place k
  obtain ⟨er, her⟩ : ∃ er, rightI (placeF k) = er := ⟨_, rfl⟩
  rw [her] at hke cR
  have HKe := Lib.hid hke
  have HK := Lib.hid (fun (W : World) (h : Below W2.heap.size W2 W) => (h.block w.heap.size (Nat.lt_of_lt_of_le hlt b2.size)).trans hK)
  have HW0 := Lib.hid hW0
  have HW2 := Lib.hid hW2
  have hsz : W0.heap.size = w.heap.size + 1 := by rw [← hW0]; simp
  obtain ⟨x0, x1, x2, x3⟩ := kcells4 hK0
  unfold FV placeF at cR
  change RowKit.Hid (Calls Tryz.prog 52 #[.agg #[.string (S k.tag), .string ⟨#[32, 32]⟩, .slice (some ⟨W0.heap.size, 0, none⟩) 1 1, .int .i64 0]] W2 fun e w' => e = .returned (.int .i64 er) ∧ Below W2.heap.size W2 w') at cR
  have HSz := Lib.hid hsz
  unfold KV
  clear hQ hW0 hW2 b0 b2 b02 hK0 hK hS hF hq hE hke her hlt hsz
  generalize keyE k = E at *
  generalize S k.tag = kt at *
  generalize k.code.toNat = kc at *
  generalize k.norm = kn at *
  generalize k.weight = kw at *
  go_enter Tryz.func31, Tryz.ntmps31
  go_upto_region 1 with fail
  rw [HW0.out]
  clear HW0
  go_upto_region 2 with fail
  rw [HW2.out]
  clear HW2 x0 x1 x2 x3
  go_wp2_with fail
  refine cR.out.mono ?_
  rintro e w1 ⟨rfl, hb1⟩
  have HB1 := Lib.hid hb1
  obtain ⟨x0, x1, x2, x3⟩ := kcells4 (HK.out w1 hb1)
  clear cR hb1 HK z0 z1 z2 z3
  by_cases he : er = 0
  · subst he
    have hke : E = if kn < 0 ∨ 4 < kn ∨ kw < 1 ∨ 100 < kw then 2 else 0 := by
      rw [HKe.out]
      exact if_neg (by decide)
    clear HKe
    by_cases hbad : kn < 0 ∨ 4 < kn ∨ kw < 1 ∨ 100 < kw
    · rw [if_pos hbad] at hke
      have HG := Lib.hid (HQ.out 2 w1 hke HB1.out)
      have tt : decide (kn < 0) = true ∨ decide (kn < 0) = false ∧ (decide (4 < kn) = true ∨ decide (4 < kn) = false ∧ (decide (kw < 1) = true ∨ decide (kw < 1) = false ∧ decide (100 < kw) = true)) := by
        simp only [decide_eq_true_eq, decide_eq_false_iff_not]
        omega
      clear HQ hke hbad
      rcases tt with t | ⟨t, t | ⟨t', t | ⟨t'', t⟩⟩⟩
      all_goals
        go_wp2
        first | exact HG.out | (go_ret; exact HG.out)
    · rw [if_neg hbad] at hke
      have HG := Lib.hid (HQ.out 0 w1 hke HB1.out)
      have u1 : decide (kn < 0) = false := decide_eq_false (by omega)
      have u2 : decide (4 < kn) = false := decide_eq_false (by omega)
      have u3 : decide (kw < 1) = false := decide_eq_false (by omega)
      have u4 : decide (100 < kw) = false := decide_eq_false (by omega)
      clear HQ hke hbad
      go_wp2
      first | exact HG.out | (go_ret; exact HG.out)
  · have hke := HKe.out
    rw [if_pos he] at hke
    have HG := Lib.hid (HQ.out er w1 hke HB1.out)
    have t : (er != 0) = true := by simpa using he
    clear HQ hke HKe he
    go_wp2
    first | exact HG.out | (go_ret; exact HG.out)

set_option maxHeartbeats 32000000 in
set_option maxRecDepth 100000 in
theorem pRight15_any (m : MRule) (mv : Value) (w : World) (hE : Env w) (hm : KL mv m.keys w) :
    Calls Tryz.prog 10 #[MV m mv] w fun e w' => e = .returned (.int .i64 (rightM m)) ∧ Below w.heap.size w w' := by
  obtain ⟨Q, hQ⟩ : ∃ Q, (fun (e : Ending) (w' : World) => e = .returned (.int .i64 (rightM m)) ∧ Below w.heap.size w w') = Q := ⟨_, rfl⟩
  rw [hQ]
  obtain ⟨x, cap, g, o, rfl, hc, hmx, hga, hxa⟩ := hm.opened
  unfold maxLen at hmx
  obtain ⟨n, hn⟩ : ∃ n, m.keys.length = n := ⟨_, rfl⟩
  rw [hn] at hc hga hxa ⊢
  obtain ⟨W0, hW0⟩ : ∃ W0, w.alloc (.cells #[.slice x n cap, .int .i64 m.need] 24) = W0 := ⟨_, rfl⟩
  have b0 : Below w.heap.size w W0 := by rw [← hW0]; exact (Below.refl w.heap.size w).alloc (Nat.le_refl _) _
  have hlt : w.heap.size < W0.heap.size := by rw [← hW0]; simp
  have hM : W0.heap[w.heap.size]? = some (.cells #[.slice x n cap, .int .i64 m.need] 24 (0, 0)) := by rw [← hW0]; exact heap_alloc_new w _
  have HM := Lib.hid (fun (W : World) (h : Below W0.heap.size W0 W) => (h.block w.heap.size hlt).trans hM)
  have HBw := Lib.hid (fun (W : World) (h : Below W0.heap.size W0 W) => b0.trans (h.mono b0.size))
  have HX := Lib.hid hxa
  have HRB := Lib.hid (Below.refl W0.heap.size W0)
  have HDr := Lib.hid (fun i (h : i < n) => keysE_drop m.keys i (by rw [hn]; exact h))
  have HQ : RowKit.Hid (∀ (e : Int) W, rightM m = e → Below W0.heap.size W0 W → Q (.returned (.int .i64 e)) W) := by
    rintro e W rfl hW
    rw [← hQ]
    exact ⟨rfl, b0.trans (hW.mono b0.size)⟩
  have HNil : RowKit.Hid (n = 0 → rightM m = 8) := by
    intro h
    unfold rightM
    rw [if_pos (List.length_eq_zero_iff.1 (hn.trans h))]
  have HFull : RowKit.Hid (8 < n → rightM m = 13) := by
    intro h
    unfold rightM
    rw [if_neg (fun g => by rw [g] at hn; simp at hn; omega), if_pos (by rw [hn]; exact h)]
  have HKey : RowKit.Hid (0 < n → n ≤ 8 → rightM m = if keysE m.keys ≠ 0 then keysE m.keys else if m.need < 1 ∨ 800 < m.need then 2 else 0) := by
    intro h1 h2
    unfold rightM
    rw [if_neg (fun g => by rw [g] at hn; simp at hn; omega), if_neg (by rw [hn]; omega)]
  have HDn : RowKit.Hid (m.keys.drop n = []) := List.drop_of_length_le (by rw [hn]; exact Nat.le_refl _)
  unfold MV
  have HW0 := Lib.hid hW0
  obtain ⟨m0, m1⟩ := mcells2 hM
  clear hQ hW0 hM hlt b0 hxa hm hn
  generalize m.need = need at *
  generalize hK : m.keys = K at *
  clear hK
  generalize rightM m = R at *
  by_cases hn0 : n = 0
  · have HG := Lib.hid (HQ.out 8 W0 (HNil.out hn0) HRB.out)
    subst hn0
    go_enter Tryz.func10, Tryz.ntmps10
    go_upto_region 1 with fail
    rw [HW0.out]
    go_wp2
    first | exact HG.out | (go_ret; exact HG.out)
  by_cases hn8 : 8 < n
  · have HG := Lib.hid (HQ.out 13 W0 (HFull.out hn8) HRB.out)
    have t1 : decide ((8 : Int) < (n : Int)) = true := decide_eq_true (by omega)
    have t0 : ((n : Int) == 0) = false := by simp; omega
    go_enter Tryz.func10, Tryz.ntmps10
    go_upto_region 1 with fail
    rw [HW0.out]
    go_wp2
    first | exact HG.out | (go_ret; exact HG.out)
  have HKy := Lib.hid (HKey.out (by omega) (by omega))
  have t1 : decide ((8 : Int) < (n : Int)) = false := decide_eq_false (by omega)
  have t0 : ((n : Int) == 0) = false := by simp; omega
  have hnn : n ≤ 8 := by omega
  clear hn0 hn8 HKey HNil HFull
  go_enter Tryz.func10, Tryz.ntmps10
  go_upto_region 1 with fail
  rw [HW0.out]
  clear HW0
  go_wp2
  clear m0 m1
  go_loopw [4, 5, 19] (fun _ _ s3 wr => ∃ i : Nat, s3 = .int .i64 (i : Int) ∧ i ≤ n ∧ RowKit.Hid (keysE (K.drop i) = keysE K) ∧ RowKit.Hid (Below W0.heap.size W0 wr)) (fun _ _ s3 _ => n - (intOf s3).toNat)
  case atStart => exact ⟨0, rfl, Nat.zero_le _, rfl, HRB.out⟩
  case round =>
    obtain ⟨i, rfl, hi, HI, HBr⟩ := hrel
    clear HRB
    have i1 : (0 : Int) ≤ (i : Int) := by omega
    obtain ⟨wq, hwq⟩ : ∃ wq, wr = wq := ⟨_, rfl⟩
    rw [hwq] at HBr ⊢
    clear hwq
    obtain ⟨m0, m1⟩ := mcells2 (HM.out wq HBr.out)
    by_cases hin : i < n
    · have i2 : (i : Int) < (n : Int) := by omega
      obtain rfl := hga (by omega)
      obtain ⟨k0, k1, k2, k3⟩ := HX.out wq (HBw.out wq HBr.out) i hin
      have hdr := HDr.out i hin
      rw [HI.out] at hdr
      obtain ⟨k, hk⟩ : ∃ k, K.getD i key0 = k := ⟨_, rfl⟩
      rw [hk] at k0 k1 k2 k3 hdr
      have cR := Lib.hid (fun (W : World) (h : Below w.heap.size w W) => prightKey_any k W (hE.after h))
      unfold KV at cR
      have HDk := Lib.hid hdr
      obtain ⟨wb, hwb⟩ : ∃ wb, wq.alloc (.cells #[.string (S k.tag), .int .u8 (k.code.toNat : Int), .int .i64 k.norm, .int .i64 k.weight] 39) = wb := ⟨_, rfl⟩
      obtain ⟨bx, hbx⟩ : ∃ bx, wq.heap.size = bx := ⟨_, rfl⟩
      have hF : wb.heap[bx]? = some (.cells #[.string (S k.tag), .int .u8 (k.code.toNat : Int), .int .i64 k.norm, .int .i64 k.weight] 39 (0, 0)) := by rw [← hwb, ← hbx]; exact heap_alloc_new wq _
      have hbb : Below wq.heap.size wq wb := by rw [← hwb]; exact (Below.refl _ _).alloc (Nat.le_refl _) _
      have HBb := Lib.hid (HBr.out.trans (hbb.mono HBr.out.size))
      have cR1 := Lib.hid (cR.out wb (HBw.out wb HBb.out))
      have HWb := Lib.hid hwb
      have HBx := Lib.hid hbx
      clear hk hdr hwb hbx hbb cR
      generalize S k.tag = kt at *
      generalize k.code.toNat = kc at *
      generalize k.norm = kn at *
      generalize k.weight = kw at *
      generalize keyE k = E at *
      obtain ⟨f0, f1, f2, f3⟩ := kcells4 hF
      clear hF
      go_upto_region 8 with fail
      rw [HWb.out, HBx.out]
      clear HWb HBx k0 k1 k2 k3 m0 m1
      go_wp2_with fail
      refine cR1.out.mono ?_
      rintro e w5 ⟨rfl, hb5⟩
      have HB5 := Lib.hid (HBb.out.trans (hb5.mono HBb.out.size))
      clear hb5 cR1 HBb f0 f1 f2 f3
      by_cases he : E = 0
      · have HN2 : RowKit.Hid (keysE (K.drop (i + 1)) = keysE K) := by
          have h1 := HDk.out
          rw [if_pos he] at h1
          exact h1.symm
        subst he
        clear HDk
        go_wp2
        go_roundw
        case rel => exact ⟨i + 1, by go_num, by omega, HN2.out, HB5.out⟩
        case measure => simp [intOf]; omega
      · have hR : R = E := by
          have h1 := HDk.out
          rw [if_neg he] at h1
          have h2 := HKy.out
          rw [h1, if_pos he] at h2
          exact h2
        have HG := Lib.hid (HQ.out E w5 hR HB5.out)
        have t : (E != 0) = true := by simpa using he
        clear HQ HDk hR he
        go_wp2
        first | exact HG.out | (go_ret; exact HG.out)
    · obtain rfl : i = n := by omega
      have hk := HKy.out
      rw [HDn.out] at HI
      rw [← HI.out] at hk
      have hk2 : R = if need < 1 ∨ 800 < need then 2 else 0 := by
        rw [hk]
        exact if_neg (by decide)
      by_cases hbad : need < 1 ∨ 800 < need
      · rw [if_pos hbad] at hk2
        have HG := Lib.hid (HQ.out 2 wq hk2 HBr.out)
        have tt : decide (need < 1) = true ∨ decide (need < 1) = false ∧ decide (800 < need) = true := by
          simp only [decide_eq_true_eq, decide_eq_false_iff_not]
          omega
        clear hk hk2 hbad HI
        rcases tt with t | ⟨t, t'⟩
        all_goals
          go_wp2
          first | exact HG.out | (go_ret; exact HG.out)
      · rw [if_neg hbad] at hk2
        have HG := Lib.hid (HQ.out 0 wq hk2 HBr.out)
        have u1 : decide (need < 1) = false := decide_eq_false (by omega)
        have u2 : decide (800 < need) = false := decide_eq_false (by omega)
        clear hk hk2 hbad HI
        go_wp2
        first | exact HG.out | (go_ret; exact HG.out)
end

end Go.Proofs.YtfjfpefpdlecbaaGreatDoor
