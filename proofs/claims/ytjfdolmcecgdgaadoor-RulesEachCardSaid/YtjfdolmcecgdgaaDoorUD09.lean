/- Package rules: rightRule, Right. -/
import Derived.Test.YtjfdolmcecgdgaaDoorUC09
import Derived.Lib.Builder
namespace Go.Proofs.YtjfdolmcecgdgaaDoor
open Go.RowKit Go.PlainAid

/-- A rule in its box. -/
structure UB (b : Nat) (t : Rul) (W : World) : Prop where
  bx : W.heap[b]? = some (.cells #[.string (S t.tag), .bool t.rep, .bool t.must, .string (S t.codes), .string (S t.once), .string (S t.needs), .int .i64 t.auth] 25 (0, 0))
theorem UB.lt {b : Nat} {t : Rul} {W : World} (h : UB b t W) : b < W.heap.size := (Array.getElem?_eq_some_iff.1 h.bx).1
theorem UB.after {b : Nat} {t : Rul} {W W' : World} (h : UB b t W) (hb : Below W.heap.size W W') : UB b t W' := ⟨(hb.block _ h.lt).trans h.bx⟩
theorem UB.new (t : Rul) (w : World) : UB w.heap.size t (w.alloc (.cells #[.string (S t.tag), .bool t.rep, .bool t.must, .string (S t.codes), .string (S t.once), .string (S t.needs), .int .i64 t.auth] 25)) := ⟨heap_alloc_new w _⟩
theorem UB.cells {b : Nat} {t : Rul} {W : World} (h : UB b t W) : W.cell? ⟨b, 0, none⟩ = some (.string (S t.tag)) ∧ W.cell? ⟨b, 1, none⟩ = some (.bool t.rep) ∧ W.cell? ⟨b, 2, none⟩ = some (.bool t.must) ∧ W.cell? ⟨b, 3, none⟩ = some (.string (S t.codes)) ∧
    W.cell? ⟨b, 4, none⟩ = some (.string (S t.once)) ∧ W.cell? ⟨b, 5, none⟩ = some (.string (S t.needs)) ∧ W.cell? ⟨b, 6, none⟩ = some (.int .i64 t.auth) := by
  refine ⟨?_, ?_, ?_, ?_, ?_, ?_, ?_⟩ <;> (rw [Lib.cell_of_heap h.bx]; rfl)
theorem S_empty9 (l : List UInt8) (q : Bool) (h : decide (l = []) = q) : (S l).toList.isEmpty = q ∧ ((S l).toList == []) = q := by
  have h2 : (S l).toList = l := by
    rw [ByteArray.toList_eq]; rfl
  rw [h2, ← h]
  cases l <;> simp
theorem S_less (a b : List UInt8) : Op.bytesLess (S a).toList (S b).toList = Op.bytesLess a b := by
  have h : ∀ l, (S l).toList = l := fun l => by rw [ByteArray.toList_eq]; rfl
  rw [h, h]
theorem le_bits (a b : List UInt8) : (leB a b = false ∧ Op.bytesLess (S a).toList (S b).toList = false ∧ ((S a).toList == (S b).toList) = false) ∨ (leB a b = true ∧ Op.bytesLess (S a).toList (S b).toList = true) ∨
    (leB a b = true ∧ Op.bytesLess (S a).toList (S b).toList = false ∧ ((S a).toList == (S b).toList) = true) := by
  have h : ∀ l, (S l).toList = l := fun l => by rw [ByteArray.toList_eq]; rfl
  rw [h, h]
  unfold leB
  cases Op.bytesLess a b <;> cases (a == b) <;> simp
theorem errR_eq (before : List UInt8) (t : Rul) : errR false before t = if tagB t.tag = false then 6 else if leB t.tag before = true then 7 else if decide (t.codes = []) = true then 3 else if codesB t.codes = false then 3 else if choiceB t.once t.codes = false then 3 else if choiceB t.needs t.codes = false then 3 else if t.auth < 0 ∨ 4 < t.auth then 1 else 0 := by
  unfold errR formB choiceB
  by_cases h : t.codes = []
  · simp [h]
  · cases codesB t.codes <;> cases codesB t.once <;> cases codesB t.needs <;> cases withinB t.codes t.once <;> cases withinB t.codes t.needs <;> simp [h]
theorem errR_first (a : List UInt8) (t : Rul) : errR true a t = errR false [] t := by
  unfold errR
  by_cases h : tagB t.tag = false
  · rw [if_pos h, if_pos h]
  · have : leB t.tag [] = false := by
      unfold leB
      match e : t.tag with
      | [] => rw [e] at h; exact absurd rfl h
      | x :: r => rfl
    simp [this]

set_option maxHeartbeats 16000000 in
theorem uRule_any (t : Rul) (before : List UInt8) (w : World) (hz : t.tag.length ≤ 1000000 ∧ t.codes.length ≤ 1000000 ∧ t.once.length ≤ 1000000 ∧ t.needs.length ≤ 1000000) (er : Int) (hb : errR false before t = er) :
    Calls Tryd.prog 26 #[UV t, .string (S before)] w fun e w' => e = .returned (.int .i64 er) ∧ Below w.heap.size w w' := by
  obtain ⟨z0, z1, z2, z3⟩ := hz
  rw [errR_eq] at hb
  have hX := UB.new t w
  have b0 := (Below.refl w.heap.size w).alloc (Nat.le_refl _) (.cells #[.string (S t.tag), .bool t.rep, .bool t.must, .string (S t.codes), .string (S t.once), .string (S t.needs), .int .i64 t.auth] 25)
  obtain ⟨q0, h0⟩ : ∃ q, tagB t.tag = q := ⟨_, rfl⟩
  obtain ⟨q1, h1⟩ : ∃ q, leB t.tag before = q := ⟨_, rfl⟩
  obtain ⟨q2, h2⟩ : ∃ q, decide (t.codes = []) = q := ⟨_, rfl⟩
  obtain ⟨q3, h3⟩ : ∃ q, codesB t.codes = q := ⟨_, rfl⟩
  obtain ⟨q4, h4⟩ : ∃ q, choiceB t.once t.codes = q := ⟨_, rfl⟩
  obtain ⟨q5, h5⟩ : ∃ q, choiceB t.needs t.codes = q := ⟨_, rfl⟩
  have c0 := Lib.hid (fun W => uTag_any t.tag z0 q0 h0 W)
  have c3 := Lib.hid (fun W => uCodes_any t.codes z1 q3 h3 W)
  have c4 := Lib.hid (fun W => uChoice_any t.codes t.once z2 q4 h4 W)
  have c5 := Lib.hid (fun W => uChoice_any t.codes t.needs z3 q5 h5 W)
  rw [h0, h1, h2, h3, h4, h5] at hb
  have hl := le_bits t.tag before
  rw [h1] at hl
  obtain ⟨he, he2⟩ := S_empty9 t.codes q2 h2
  have HB := Lib.hid hb
  clear h0 h1 h2 h3 h4 h5 z0 z1 z2 z3 hb
  unfold UV
  obtain ⟨k0, k1, k2, k3, k4, k5, k6⟩ := hX.cells
  obtain ⟨W0, hW0⟩ : ∃ W0, w.alloc (.cells #[.string (S t.tag), .bool t.rep, .bool t.must, .string (S t.codes), .string (S t.once), .string (S t.needs), .int .i64 t.auth] 25) = W0 := ⟨_, rfl⟩
  rw [hW0] at hX b0 k0 k1 k2 k3 k4 k5 k6
  have HW0 := Lib.hid hW0
  have HX := Lib.hid hX
  clear hW0 hX
  have HC := Lib.hid (fun W (h : UB w.heap.size t W) => h.cells)
  obtain ⟨st, hst⟩ : ∃ s, S t.tag = s := ⟨_, rfl⟩
  obtain ⟨sc, hsc⟩ : ∃ s, S t.codes = s := ⟨_, rfl⟩
  obtain ⟨so, hso⟩ : ∃ s, S t.once = s := ⟨_, rfl⟩
  obtain ⟨sn, hsn⟩ : ∃ s, S t.needs = s := ⟨_, rfl⟩
  obtain ⟨va, hva⟩ : ∃ v, t.auth = v := ⟨_, rfl⟩
  rw [hst, hsc, hso, hsn, hva] at HW0 HC ⊢
  rw [hst] at k0 c0 hl
  rw [hsc] at k3 c3 c4 c5 he he2
  rw [hso] at k4 c4
  rw [hsn] at k5 c5
  rw [hva] at k6 HB
  clear hst hsc hso hsn hva
  generalize S before = sb at *
  generalize t.rep = vr at *
  generalize t.must = vm at *
  go_enter Tryd.func26, Tryd.ntmps26
  go_wp2_with fail
  rw [HW0.out]
  refine (c0.out W0).mono ?_
  rintro e w1 ⟨rfl, hw1⟩
  rw [hw1]
  clear hw1 c0
  cases q0
  · obtain rfl : 6 = er := HB.out
    go_wp2
    go_ret
    exact ⟨rfl, b0⟩
  obtain ⟨rfl, l1, l2⟩ | ⟨rfl, l1⟩ | ⟨rfl, l1, l2⟩ := hl
  rotate_left
  · obtain rfl : 7 = er := HB.out
    go_wp2
    go_ret
    exact ⟨rfl, b0⟩
  · obtain rfl : 7 = er := HB.out
    go_wp2
    go_ret
    exact ⟨rfl, b0⟩
  cases q2
  rotate_left
  · obtain rfl : 3 = er := HB.out
    go_wp2
    go_ret
    exact ⟨rfl, b0⟩
  go_wp2_with fail
  refine (c3.out W0).mono ?_
  rintro e w1 ⟨rfl, d⟩
  have HX1 := Lib.hid (HX.out.after d)
  have b1 := b0.trans (d.mono b0.size)
  clear d k0 k1 k2 k3 k4 k5 k6 b0 c3 HX
  cases q3
  · obtain rfl : 3 = er := HB.out
    go_wp2
    go_ret
    exact ⟨rfl, b1⟩
  obtain ⟨k0, k1, k2, k3, k4, k5, k6⟩ := HC.out _ HX1.out
  go_wp2_with fail
  refine (c4.out w1).mono ?_
  rintro e w2 ⟨rfl, d⟩
  have HX2 := Lib.hid (HX1.out.after d)
  have b2 := b1.trans (d.mono b1.size)
  clear d k0 k1 k2 k3 k4 k5 k6 b1 c4 HX1
  cases q4
  · obtain rfl : 3 = er := HB.out
    go_wp2
    go_ret
    exact ⟨rfl, b2⟩
  obtain ⟨k0, k1, k2, k3, k4, k5, k6⟩ := HC.out _ HX2.out
  go_wp2_with fail
  refine (c5.out w2).mono ?_
  rintro e w3 ⟨rfl, d⟩
  have HX3 := Lib.hid (HX2.out.after d)
  have b3 := b2.trans (d.mono b2.size)
  clear d k0 k1 k2 k3 k4 k5 k6 b2 c5 HX2
  cases q5
  · obtain rfl : 3 = er := HB.out
    go_wp2
    go_ret
    exact ⟨rfl, b3⟩
  obtain ⟨k0, k1, k2, k3, k4, k5, k6⟩ := HC.out _ HX3.out
  have hB : (if va < 0 ∨ 4 < va then (1 : Int) else 0) = er := HB.out
  clear HB
  by_cases p0 : va < 0
  · rw [if_pos (.inl p0)] at hB
    subst hB
    have d0 : decide (va < 0) = true := decide_eq_true p0
    clear p0
    go_wp2
    go_ret
    exact ⟨rfl, b3⟩
  by_cases p1 : 4 < va
  · rw [if_pos (.inr p1)] at hB
    subst hB
    have d0 : decide (va < 0) = false := decide_eq_false p0
    have d1 : decide (4 < va) = true := decide_eq_true p1
    clear p0 p1
    go_wp2
    go_ret
    exact ⟨rfl, b3⟩
  rw [if_neg (fun h => h.elim p0 p1)] at hB
  subst hB
  have d0 : decide (va < 0) = false := decide_eq_false p0
  have d1 : decide (4 < va) = false := decide_eq_false p1
  clear p0 p1
  go_wp2
  go_ret
  exact ⟨rfl, b3⟩

/-- The tag behind which a rule stands. -/
def befL (l : List Rul) : Nat → List UInt8
  | 0 => []
  | k + 1 => (l.getD k rul0).tag
theorem errAt_bef (l : List Rul) (k : Nat) : errAt l k = errR false (befL l k) (l.getD k rul0) := by
  unfold errAt
  cases k with
  | zero => rw [decide_eq_true rfl, errR_first]; rfl
  | succ m => rw [decide_eq_false (Nat.succ_ne_zero m), Nat.add_sub_cancel]; rfl
/-- Texts of bounded length. -/
def smallT (t : Rul) : Prop := t.tag.length ≤ 1000000 ∧ t.codes.length ≤ 1000000 ∧ t.once.length ≤ 1000000 ∧ t.needs.length ≤ 1000000

set_option maxHeartbeats 16000000 in
theorem uRight_any (l : List Rul) (v : Value) (w : World) (hv : TL v l w) (hz : ∀ i, i < l.length → smallT (l.getD i rul0)) (er : Int) (hb : rightL l = er) :
    Calls Tryd.prog 16 #[v] w fun e w' => e = .returned (.int .i64 er) ∧ Below w.heap.size w w' := by
  have HU := Lib.hid hv
  obtain ⟨a, cap, rfl, hcap, hmax⟩ := hv.length
  unfold maxLen at hmax
  obtain ⟨n, hn⟩ : ∃ n, l.length = n := ⟨_, rfl⟩
  rw [hn] at hcap HU ⊢
  have HN := Lib.hid hn
  have HZ := Lib.hid (fun i (hi : i < n) => hz i (by omega))
  have cR := Lib.hid (fun k W (hk : k < n) e he => uRule_any (l.getD k rul0) (befL l k) W (hz k (by omega)) e he)
  unfold UV at cR
  have HEr := Lib.hid (errAt_bef l)
  by_cases hlong : 32 < n
  · obtain rfl : 13 = er := by rw [← hb]; exact (rightL_long l (by omega)).symm
    have d6 : decide ((32 : Int) < (n : Int)) = true := decide_eq_true (by omega)
    clear hlong hb hn hz hv
    go_enter Tryd.func16, Tryd.ntmps16
    go_wp2
    go_ret
    exact ⟨rfl, Below.refl _ _⟩
  have d6 : decide ((32 : Int) < (n : Int)) = false := decide_eq_false (by omega)
  have HHit := Lib.hid (fun k (hk : k < n) h he => (rightL_hit l (by omega) k (by omega) h he).symm.trans hb)
  have HMiss := Lib.hid (fun h => (rightL_miss l (by omega) h).symm.trans hb)
  have hn64 : n ≤ 32 := by omega
  have HRef := Lib.hid (Below.refl w.heap.size w)
  have HS0 : RowKit.Hid (Value.string (S []) = .string ⟨#[]⟩) := rfl
  clear hlong hb hn hz hv
  go_enter Tryd.func16, Tryd.ntmps16
  go_wp2
  go_loopw [3, 12] (fun s i wr => ∃ k : Nat, k ≤ n ∧ i = .int .i64 (k : Int) ∧ s = .string (S (befL l k)) ∧ RowKit.Hid (∀ j, j < k → errAt l j = 0) ∧ Below w.heap.size w wr) (fun _ i _ => n - (intOf i).toNat)
  case atStart => exact ⟨0, Nat.zero_le _, rfl, rfl, (fun j hj => by omega), HRef.out⟩
  case round =>
    obtain ⟨k, hk, rfl, rfl, HJ, hbw⟩ := hrel
    by_cases hkn : k < n
    · obtain ⟨g, o, cap', he, hg, hR⟩ := (HU.out.after hbw).at k (by rw [HN.out]; exact hkn)
      obtain ⟨ha, -, hcp⟩ := Value.slice.inj he
      subst ha hcp
      clear he
      obtain ⟨c0, c1, c2, c3, c4, c5, c6⟩ := hR
      have i1 : (0 : Int) ≤ (k : Int) := by omega
      have i2 : (k : Int) < (n : Int) := by omega
      obtain ⟨ee, hee⟩ : ∃ ee, errAt l k = ee := ⟨_, rfl⟩
      have ha := hbw.alloc hbw.size (.cells #[.string (S (l.getD k rul0).tag), .bool (l.getD k rul0).rep, .bool (l.getD k rul0).must, .string (S (l.getD k rul0).codes), .string (S (l.getD k rul0).once), .string (S (l.getD k rul0).needs), .int .i64 (l.getD k rul0).auth] 25)
      have hX := UB.new (l.getD k rul0) wr
      obtain ⟨wa, hwa⟩ : ∃ wa, wr.alloc (.cells #[.string (S (l.getD k rul0).tag), .bool (l.getD k rul0).rep, .bool (l.getD k rul0).must, .string (S (l.getD k rul0).codes), .string (S (l.getD k rul0).once), .string (S (l.getD k rul0).needs), .int .i64 (l.getD k rul0).auth] 25) = wa := ⟨_, rfl⟩
      rw [hwa] at ha hX
      obtain ⟨y0, y1, y2, y3, y4, y5, y6⟩ := hX.cells
      have HWA := Lib.hid hwa
      have HA := Lib.hid ha
      have HX := Lib.hid hX
      clear hwa ha hX
      have c := Lib.hid (cR.out k wa hkn ee ((HEr.out k).symm.trans hee))
      have hHit := HHit.out k hkn HJ.out
      rw [hee] at hHit
      have hbk : (l.getD k rul0).tag = befL l (k + 1) := rfl
      by_cases h0 : ee = 0
      · have HJ2 : RowKit.Hid (∀ j, j < k + 1 → errAt l j = 0) := by
          intro j hj
          rcases Nat.lt_or_ge j k with h | h
          · exact HJ.out j h
          · rw [show j = k by omega, hee]; exact h0
        subst h0
        clear HJ hHit hbk
        obtain ⟨t0, ht0⟩ : ∃ t0, S (l.getD k rul0).tag = t0 := ⟨_, rfl⟩
        have HT0 : RowKit.Hid (S (befL l (k + 1)) = t0) := ht0
        rw [ht0] at c0 y0 HWA c
        clear ht0
        generalize S (l.getD k rul0).codes = t3 at *
        generalize S (l.getD k rul0).once = t4 at *
        generalize S (l.getD k rul0).needs = t5 at *
        generalize (l.getD k rul0).auth = t6 at *
        generalize (l.getD k rul0).rep = t1 at *
        generalize (l.getD k rul0).must = t2 at *
        go_wp2_with fail
        rw [HWA.out]
        refine c.out.mono ?_
        rintro e w5 ⟨rfl, d⟩
        have hb5 := Lib.hid (HA.out.trans (d.mono HA.out.size))
        have hx0 := (d.cell (p := ⟨wr.heap.size, 0, none⟩) HX.out.lt).trans y0
        clear y0 y1 y2 y3 y4 y5 y6 c0 c1 c2 c3 c4 c5 c6
        go_wp2
        go_roundw
        case rel => exact ⟨k + 1, by omega, by go_num, by rw [HT0.out], HJ2, hb5.out⟩
        case measure => simp [intOf]; omega
      · obtain rfl : ee = er := hHit h0
        have t7 : (ee != 0) = true := by simpa using h0
        clear HJ hHit h0 hee hbk
        generalize S (l.getD k rul0).tag = t0 at *
        generalize S (l.getD k rul0).codes = t3 at *
        generalize S (l.getD k rul0).once = t4 at *
        generalize S (l.getD k rul0).needs = t5 at *
        generalize (l.getD k rul0).auth = t6 at *
        generalize (l.getD k rul0).rep = t1 at *
        generalize (l.getD k rul0).must = t2 at *
        go_wp2_with fail
        rw [HWA.out]
        refine c.out.mono ?_
        rintro e w5 ⟨rfl, d⟩
        have Fin := Lib.hid (HA.out.trans (d.mono HA.out.size))
        go_wp2
        go_ret
        exact ⟨rfl, Fin.out⟩
    · obtain rfl : k = n := by omega
      obtain rfl : 0 = er := HMiss.out (fun j hj => HJ.out j (by rw [HN.out] at hj; exact hj))
      go_wp2
      go_ret
      exact ⟨rfl, hbw⟩
end Go.Proofs.YtjfdolmcecgdgaaDoor
