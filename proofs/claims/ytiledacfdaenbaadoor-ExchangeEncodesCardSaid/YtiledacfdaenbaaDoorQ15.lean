/- Merged: FD07, FF07, FL. -/
import Derived.Test.YtiledacfdaenbaaDoorQ14
import Derived.Test.YtiledacfdaenbaaDoorQ03
import Derived.Test.YtiledacfdaenbaaDoorQ08
import Derived.Test.YtiledacfdaenbaaDoorQ02
import Derived.Laws.AppendOwn
import Derived.OwnWalk
import Derived.Laws.AppendOwnNone
namespace Go.Proofs.YtiledacfdaenbaaDoor

section
open Go.RowKit Go.PlainAid

end

section
open Go.RowKit Go.PlainAid
set_option maxHeartbeats 16000000 in
theorem rightSub_any (s : Sub) (hz : s.2.length ≤ 1000000) (er : Int) (hb : subE s = er) (w : World) (hE : Env w) :
    Calls Tryd.prog 48 #[.agg #[.int .u8 (s.1.toNat : Int), .string (S s.2)]] w fun e w' => e = .returned (.int .i64 er) ∧ Below w.heap.size w w' := by
  obtain ⟨code, val⟩ := s
  have b0 := (Below.refl w.heap.size w).alloc (Nat.le_refl _) (.cells #[.int .u8 (code.toNat : Int), .string (S val)] 46)
  have k1 : (w.alloc (.cells #[.int .u8 (code.toNat : Int), .string (S val)] 46)).cell? ⟨w.heap.size, 1, none⟩ = some (.string (S val)) := by simp
  have hlx : w.heap.size < (w.alloc (.cells #[.int .u8 (code.toNat : Int), .string (S val)] 46)).heap.size := by simp
  have cV := Lib.hid (fun b hb => cValid val hz b hb _ (hE.after b0))
  have hEm : ((S val).toList == []) = decide (val = []) := by
    rw [ByteArray.toList_eq]
    show (val == []) = _
    cases val with
    | nil => rfl
    | cons y t => simp
  have hEm2 : (S val).toList.isEmpty = decide (val = []) := by
    rw [ByteArray.toList_eq]
    show val.isEmpty = _
    cases val with
    | nil => rfl
    | cons y t => simp
  have hvs := S_size val
  have hcd : codeB code = (digB code || letB code) := rfl
  unfold subE at hb
  simp only at hz hb ⊢
  obtain ⟨lb, hlb⟩ : ∃ lb, letB code = lb := ⟨_, rfl⟩
  obtain ⟨db, hdb⟩ : ∃ db, digB code = db := ⟨_, rfl⟩
  have cL := Lib.hid (fun W => fletter_any code lb hlb W)
  have cD := Lib.hid (fun W => fdigit_any code db hdb W)
  rw [hlb, hdb] at hcd
  rw [hcd] at hb
  clear hlb hdb hcd hE
  generalize ((code.toNat : Nat) : Int) = y at *
  by_cases hn : (db || lb) = false
  · rw [if_pos hn] at hb
    subst hb
    obtain ⟨rfl, rfl⟩ : db = false ∧ lb = false := by simpa using hn
    go_enter Tryd.func48, Tryd.ntmps48
    go_wp2_with fail
    refine (cL.out _).mono ?_
    rintro e w1 ⟨rfl, rfl⟩
    go_wp2_with fail
    refine (cD.out _).mono ?_
    rintro e w1 ⟨rfl, rfl⟩
    go_wp2
    go_ret
    exact ⟨rfl, b0⟩
  rw [if_neg hn] at hb
  have hor : lb = true ∨ (lb = false ∧ db = true) := by cases lb <;> cases db <;> simp_all
  clear hn
  by_cases hv0 : val = []
  · rw [decide_eq_true hv0] at hEm hEm2
    rw [if_pos hv0] at hb
    subst hb
    clear hv0
    rcases hor with rfl | ⟨rfl, rfl⟩
    · go_enter Tryd.func48, Tryd.ntmps48
      go_wp2_with fail
      refine (cL.out _).mono ?_
      rintro e w1 ⟨rfl, rfl⟩
      go_wp2
      go_ret
      exact ⟨rfl, b0⟩
    · go_enter Tryd.func48, Tryd.ntmps48
      go_wp2_with fail
      refine (cL.out _).mono ?_
      rintro e w1 ⟨rfl, rfl⟩
      go_wp2_with fail
      refine (cD.out _).mono ?_
      rintro e w1 ⟨rfl, rfl⟩
      go_wp2
      go_ret
      exact ⟨rfl, b0⟩
  rw [decide_eq_false hv0] at hEm hEm2
  rw [if_neg hv0] at hb
  clear hv0
  cases hvt : validT val
  · have cV := Lib.hid (cV.out false hvt)
    rw [if_pos hvt] at hb
    subst hb
    clear hvt
    rcases hor with rfl | ⟨rfl, rfl⟩
    · go_enter Tryd.func48, Tryd.ntmps48
      go_wp2_with fail
      refine (cL.out _).mono ?_
      rintro e w1 ⟨rfl, rfl⟩
      go_wp2_with fail
      refine cV.out.mono ?_
      rintro e w2 ⟨rfl, c⟩
      have b2 := b0.trans (c.mono b0.size)
      go_wp2
      go_ret
      exact ⟨rfl, b2⟩
    · go_enter Tryd.func48, Tryd.ntmps48
      go_wp2_with fail
      refine (cL.out _).mono ?_
      rintro e w1 ⟨rfl, rfl⟩
      go_wp2_with fail
      refine (cD.out _).mono ?_
      rintro e w1 ⟨rfl, rfl⟩
      go_wp2_with fail
      refine cV.out.mono ?_
      rintro e w2 ⟨rfl, c⟩
      have b2 := b0.trans (c.mono b0.size)
      go_wp2
      go_ret
      exact ⟨rfl, b2⟩
  have cV := Lib.hid (cV.out true hvt)
  rw [if_neg (by rw [hvt]; decide)] at hb
  clear hvt
  obtain ⟨lg, hlg⟩ : ∃ lg, decide ((200 : Int) < (val.length : Int)) = lg := ⟨_, rfl⟩
  have her : er = if lg = true then 4 else 0 := by
    rw [← hb, ← hlg]
    by_cases h : 200 < val.length
    · rw [if_pos h, if_pos (decide_eq_true (by omega))]
    · rw [if_neg h, if_neg]
      rw [decide_eq_true_iff]
      omega
  clear hb
  generalize val.length = vl at *
  rcases hor with rfl | ⟨rfl, rfl⟩
  · go_enter Tryd.func48, Tryd.ntmps48
    go_wp2_with fail
    refine (cL.out _).mono ?_
    rintro e w1 ⟨rfl, rfl⟩
    go_wp2_with fail
    refine cV.out.mono ?_
    rintro e w2 ⟨rfl, c⟩
    have b2 := b0.trans (c.mono b0.size)
    have k1b := (c.cell (p := ⟨w.heap.size, 1, none⟩) hlx).trans k1
    clear c k1
    cases lg
    · subst her
      go_wp2
      go_ret
      exact ⟨rfl, b2⟩
    · subst her
      go_wp2
      go_ret
      exact ⟨rfl, b2⟩
  · go_enter Tryd.func48, Tryd.ntmps48
    go_wp2_with fail
    refine (cL.out _).mono ?_
    rintro e w1 ⟨rfl, rfl⟩
    go_wp2_with fail
    refine (cD.out _).mono ?_
    rintro e w1 ⟨rfl, rfl⟩
    go_wp2_with fail
    refine cV.out.mono ?_
    rintro e w2 ⟨rfl, c⟩
    have b2 := b0.trans (c.mono b0.size)
    have k1b := (c.cell (p := ⟨w.heap.size, 1, none⟩) hlx).trans k1
    clear c k1
    cases lg
    · subst her
      go_wp2
      go_ret
      exact ⟨rfl, b2⟩
    · subst her
      go_wp2
      go_ret
      exact ⟨rfl, b2⟩

/-- What the tag's test says. -/
theorem tag_cases (l : List UInt8) : (l.length ≠ 3 ∧ tagB l = false) ∨ (l.length = 3 ∧ l.all digB = false ∧ tagB l = false) ∨ (l.length = 3 ∧ l.all digB = true ∧ Op.bytesLess l [48, 49, 48] = !tagB l) := by
  by_cases h3 : l.length = 3
  · match l, h3 with
    | [a, b, c], _ =>
      have e : tagB [a, b, c] = (digB a && digB b && digB c && !(decide (a = 48) && decide (b = 48))) := by
        show (decide ((3 : Nat) = 3) && digB a && digB b && digB c && !(decide (a = 48) && decide (b = 48))) = _
        simp
      have ea : [a, b, c].all digB = (digB a && digB b && digB c) := by simp [Bool.and_assoc]
      cases hd : (digB a && digB b && digB c)
      · refine .inr (.inl ⟨rfl, by rw [ea, hd], by rw [e, hd, Bool.false_and]⟩)
      · refine .inr (.inr ⟨rfl, by rw [ea, hd], ?_⟩)
        simp only [Bool.and_eq_true] at hd
        rw [less_three [a, b, c] rfl ((digB_iff _).1 hd.1.1).1 ((digB_iff _).1 hd.1.2).1 ((digB_iff _).1 hd.2).1, e, hd.1.1, hd.1.2, hd.2]
        simp
  · refine .inl ⟨h3, ?_⟩
    unfold tagB
    rw [decide_eq_false h3]
    rfl
theorem ind_cases (l : List UInt8) : (l.length ≠ 2 ∧ indsB l = false) ∨ (l.length = 2 ∧ (subL 32 [] l).all digB = indsB l) := by
  by_cases h2 : l.length = 2
  · match l, h2 with
    | [a, b], _ =>
      refine .inr ⟨rfl, ?_⟩
      rw [sub_inds]
      show _ = (decide ((2 : Nat) = 2) && indB a && indB b)
      simp
  · refine .inl ⟨h2, ?_⟩
    unfold indsB
    rw [decide_eq_false h2]
    rfl
theorem sub_le (c : UInt8) (l : List UInt8) : (subL c [] l).length ≤ l.length := by
  induction l with
  | nil => simp [subL]
  | cons x t ih =>
    unfold subL at ih ⊢
    rw [List.flatMap_cons, List.length_append]
    split
    · simp only [List.length_nil, List.length_cons]; omega
    · simp only [List.length_nil, List.length_cons]; omega
theorem lss_010 (l : List UInt8) (b : Bool) (h : Op.bytesLess l [48, 49, 48] = b) : Op.bytesLess (S l).toList [48, 49, 48] = b := by
  have e2 : (S l).toList = l := by rw [ByteArray.toList_eq]; rfl
  rw [e2, h]

set_option maxHeartbeats 16000000 in
set_option maxRecDepth 100000 in
theorem fRight_any (f : Fld) (u : Value) (w : World) (hE : Env w) (hu : QL u f.subs w) (hz : ∀ i, i < f.subs.length → (f.subs.getD i sub0).2.length ≤ 1000000) (er : Int) (hb : rightI f = er) :
    Calls Tryd.prog 34 #[FV f u] w fun e w' => e = .returned (.int .i64 er) ∧ Below w.heap.size w w' := by
  obtain ⟨a, cap, rfl, hcap, hmax, _, hcell⟩ := hu
  unfold maxLen at hmax
  unfold FV
  unfold rightI at hb
  obtain ⟨n, hn⟩ : ∃ n, f.subs.length = n := ⟨_, rfl⟩
  have HCell := Lib.hid hcell
  have HZ := Lib.hid hz
  rw [hn] at hcap hb ⊢
  have HN := Lib.hid hn
  clear hcell hn hz
  obtain ⟨W0, hW0⟩ : ∃ W0, w.alloc (.cells #[.string (S f.tag), .string (S f.ind), .slice a n cap, .int .i64 f.auth] 49) = W0 := ⟨_, rfl⟩
  have b0 : Below w.heap.size w W0 := by rw [← hW0]; exact (Below.refl w.heap.size w).alloc (Nat.le_refl _) _
  have hlt : w.heap.size < W0.heap.size := by rw [← hW0]; simp
  have k0 : W0.cell? ⟨w.heap.size, 0, none⟩ = some (.string (S f.tag)) := by rw [← hW0]; simp
  have k1 : W0.cell? ⟨w.heap.size, 1, none⟩ = some (.string (S f.ind)) := by rw [← hW0]; simp
  have k2 : W0.cell? ⟨w.heap.size, 2, none⟩ = some (.slice a n cap) := by rw [← hW0]; simp
  have k3 : W0.cell? ⟨w.heap.size, 3, none⟩ = some (.int .i64 f.auth) := by rw [← hW0]; simp
  have HE := Lib.hid (hE.after b0)
  have HW0 := Lib.hid hW0
  clear hW0 hE
  have hts := S_size f.tag
  have his := S_size f.ind
  rcases tag_cases f.tag with ⟨h3, ht⟩ | ⟨h3, hd, ht⟩ | ⟨h3, hd, hl⟩
  · rw [if_pos ht] at hb
    subst hb
    have t1 : (((f.tag.length : Nat) : Int) != 3) = true := by simp; omega
    clear h3 ht
    generalize f.tag.length = tl at *
    go_enter Tryd.func34, Tryd.ntmps34
    go_wp2
    go_ret
    rw [HW0.out]
    exact ⟨rfl, b0⟩
  · have cD := Lib.hid (fun W => fdigits_any f.tag (by omega) false hd W)
    rw [if_pos ht] at hb
    subst hb
    rw [h3] at hts
    clear h3 ht hd
    go_enter Tryd.func34, Tryd.ntmps34
    go_wp2_with fail
    refine (cD.out _).mono ?_
    rintro e w1 ⟨rfl, rfl⟩
    go_wp2
    go_ret
    rw [HW0.out]
    exact ⟨rfl, b0⟩
  have cD := Lib.hid (fun W => fdigits_any f.tag (by omega) true hd W)
  have hls := lss_010 f.tag _ hl
  rw [h3] at hts
  cases ht : tagB f.tag
  · rw [if_pos ht] at hb
    subst hb
    simp only [ht, Bool.not_false] at hls
    clear h3 ht hd hl
    go_enter Tryd.func34, Tryd.ntmps34
    go_wp2_with fail
    refine (cD.out _).mono ?_
    rintro e w1 ⟨rfl, rfl⟩
    go_wp2
    go_ret
    rw [HW0.out]
    exact ⟨rfl, b0⟩
  rw [if_neg (by rw [ht]; intro h; cases h)] at hb
  simp only [ht, Bool.not_true] at hls
  clear h3 ht hd hl
  rcases ind_cases f.ind with ⟨h2, hi⟩ | ⟨h2, hd2⟩
  · rw [if_pos hi] at hb
    subst hb
    have t1 : (((f.ind.length : Nat) : Int) != 2) = true := by simp; omega
    clear h2 hi
    generalize f.ind.length = il at *
    go_enter Tryd.func34, Tryd.ntmps34
    go_wp2_with fail
    refine (cD.out _).mono ?_
    rintro e w1 ⟨rfl, rfl⟩
    go_wp2
    go_ret
    rw [HW0.out]
    exact ⟨rfl, b0⟩
  have cS := Lib.hid (cStrike f.ind (by omega) W0 HE.out)
  have hsl := sub_le 32 f.ind
  rw [h2] at his
  cases hi : indsB f.ind
  · have cD2 := Lib.hid (fun W => fdigits_any (subL 32 [] f.ind) (by omega) false (by rw [hd2, hi]) W)
    rw [if_pos hi] at hb
    subst hb
    clear h2 hi hd2 hsl
    generalize S (subL 32 [] f.ind) = si at *
    go_enter Tryd.func34, Tryd.ntmps34
    go_wp2_with fail
    refine (cD.out _).mono ?_
    rintro e w1 ⟨rfl, rfl⟩
    go_wp2_with fail
    rw [HW0.out]
    refine (cS.out).mono ?_
    rintro e w1 ⟨rfl, c⟩
    have b1 := b0.trans (c.mono b0.size)
    go_wp2_with fail
    refine (cD2.out _).mono ?_
    rintro e w2 ⟨rfl, rfl⟩
    go_wp2
    go_ret
    exact ⟨rfl, b1⟩
  have cD2 := Lib.hid (fun W => fdigits_any (subL 32 [] f.ind) (by omega) true (by rw [hd2, hi]) W)
  rw [if_neg (by rw [hi]; intro h; cases h)] at hb
  clear h2 hi hd2 hsl
  generalize S (subL 32 [] f.ind) = si at *
  have HB := Lib.hid hb
  clear hb
  go_enter Tryd.func34, Tryd.ntmps34
  go_wp2_with fail
  refine (cD.out _).mono ?_
  rintro e w1 ⟨rfl, rfl⟩
  go_wp2_with fail
  rw [HW0.out]
  refine (cS.out).mono ?_
  rintro e w1 ⟨rfl, c⟩
  have b1 := b0.trans (c.mono b0.size)
  have HE1 := Lib.hid (HE.out.after c)
  have hb0 := c
  have m2 := (c.cell (p := ⟨w.heap.size, 2, none⟩) hlt).trans k2
  have m3 := (c.cell (p := ⟨w.heap.size, 3, none⟩) hlt).trans k3
  have hlt1 : w.heap.size < w1.heap.size := Nat.lt_of_lt_of_le hlt c.size
  clear c k0 k1 k2 k3 HE cS
  go_wp2_with fail
  refine (cD2.out _).mono ?_
  rintro e w2 ⟨rfl, hw2⟩
  rw [hw2]
  clear hw2 w2
  clear cD cD2 hls
  by_cases hn0 : n = 0
  · have hb := HB.out
    rw [if_pos hn0] at hb
    subst hb
    have t2 : ((n : Int) == 0) = true := by simp; omega
    clear hn0 HB
    go_wp2
    go_ret
    exact ⟨rfl, b1⟩
  have t2 : ((n : Int) == 0) = false := by simp; omega
  by_cases hn16 : 16 < n
  · have hb := HB.out
    rw [if_neg hn0, if_pos hn16] at hb
    subst hb
    have t3 : decide ((16 : Int) < (n : Int)) = true := by simp; omega
    clear hn0 HB hn16
    go_wp2
    go_ret
    exact ⟨rfl, b1⟩
  have t3 : decide ((16 : Int) < (n : Int)) = false := by simp; omega
  have hb := HB.out
  rw [if_neg hn0, if_neg hn16] at hb
  clear HB hn0 hn16
  have HB := Lib.hid hb
  clear hb
  go_wp2
  go_loopw [47] (fun i wr => ∃ k : Nat, k ≤ n ∧ i = .int .i64 (k : Int) ∧ RowKit.Hid (∀ j, j < k → subE (f.subs.getD j sub0) = 0) ∧ Below w1.heap.size w1 wr) (fun i _ => n - (intOf i).toNat)
  case atStart => exact ⟨0, Nat.zero_le _, rfl, (fun j hj => by omega), Below.refl _ _⟩
  case round =>
    obtain ⟨k, hk, rfl, HJ, hbw⟩ := hrel
    have j3 := (hbw.cell (p := ⟨w.heap.size, 3, none⟩) hlt1).trans m3
    by_cases hkn : k < n
    · obtain ⟨g, o, rfl, hg, c1, c2⟩ := HCell.out k (by rw [HN.out]; exact hkn)
      have hg1 : g < w1.heap.size := Nat.lt_of_lt_of_le hg b1.size
      have c1 : wr.cell? ⟨g, o + k * 2, none⟩ = some (.int .u8 ((f.subs.getD k sub0).1.toNat : Int)) := ((hbw.cell (p := ⟨g, o + k * 2, none⟩) hg1).trans (b1.cell (p := ⟨g, o + k * 2, none⟩) hg)).trans c1
      have c2 : wr.cell? ⟨g, o + k * 2 + 1, none⟩ = some (.string (S (f.subs.getD k sub0).2)) := ((hbw.cell (p := ⟨g, o + k * 2 + 1, none⟩) hg1).trans (b1.cell (p := ⟨g, o + k * 2 + 1, none⟩) hg)).trans c2
      have i1 : (0 : Int) ≤ (k : Int) := by omega
      have i2 : (k : Int) < (n : Int) := by omega
      have hsz := hbw.size
      have hx := firstE_hit f.subs k (by rw [HN.out]; exact hkn) HJ.out
      have hval := HZ.out k (by rw [HN.out]; exact hkn)
      have HJ2 : RowKit.Hid (subE (f.subs.getD k sub0) = 0 → ∀ j, j < k + 1 → subE (f.subs.getD j sub0) = 0) := by
        intro h0 j hj
        rcases Nat.lt_or_ge j k with h | h
        · exact HJ.out j h
        · rw [show j = k by omega]; exact h0
      obtain ⟨sb, hsub⟩ : ∃ z, f.subs.getD k sub0 = z := ⟨_, rfl⟩
      rw [hsub] at c1 c2 hx hval HJ2
      have hba : Below w1.heap.size w1 (wr.alloc (.cells #[.int .u8 (sb.1.toNat : Int), .string (S sb.2)] 46)) := hbw.alloc hsz _
      have cR := Lib.hid (fun er' h' => rightSub_any sb hval er' h' _ (HE1.out.after hba))
      have HX := Lib.hid hx
      clear hsub HJ hbw hx
      obtain ⟨es, hes⟩ : ∃ es, subE sb = es := ⟨_, rfl⟩
      have cR := Lib.hid (cR.out es hes)
      by_cases h0 : es = 0
      · subst h0
        have HJ3 := Lib.hid (HJ2.out hes)
        clear HJ2 HX hes
        generalize ((sb.1.toNat : Nat) : Int) = y at *
        generalize S sb.2 = x at *
        go_wp2_with fail
        refine cR.out.mono ?_
        rintro e w5 ⟨rfl, c⟩
        have b5 := hba.trans (c.mono hba.size)
        go_wp2
        go_roundw
        case rel => exact ⟨k + 1, by omega, by go_num, HJ3.out, b5⟩
        case measure => simp [intOf]; omega
      · have hb := HB.out
        have hfe : firstE f.subs = es := by rw [HX.out (by rw [hes]; exact h0), hes]
        rw [hfe, if_pos h0] at hb
        subst hb
        have t5 : (es != 0) = true := by simpa using h0
        clear HJ2 HX hes HB hfe h0
        generalize ((sb.1.toNat : Nat) : Int) = y at *
        generalize S sb.2 = x at *
        go_wp2_with fail
        refine cR.out.mono ?_
        rintro e w5 ⟨rfl, c⟩
        have b5 := b1.trans ((hba.trans (c.mono hba.size)).mono b1.size)
        go_wp2
        go_ret
        exact ⟨rfl, b5⟩
    · obtain rfl : k = n := by omega
      have hb := HB.out
      rw [firstE_miss f.subs (fun j hj => HJ.out j (by rw [HN.out] at hj; exact hj)), if_neg (fun h => h rfl)] at hb
      have b5 := b1.trans (hbw.mono b1.size)
      clear HB HJ hbw
      generalize f.auth = au at *
      by_cases h1 : au < 0
      · rw [if_pos (Or.inl h1)] at hb
        subst hb
        have d1 : decide (au < 0) = true := decide_eq_true h1
        clear h1
        go_wp2
        go_ret
        exact ⟨rfl, b5⟩
      · have d1 : decide (au < 0) = false := decide_eq_false h1
        by_cases h2 : 9999 < au
        · rw [if_pos (Or.inr h2)] at hb
          subst hb
          have d2 : decide (9999 < au) = true := decide_eq_true h2
          clear h1 h2
          go_wp2
          go_ret
          exact ⟨rfl, b5⟩
        · rw [if_neg (fun h => h.elim h1 h2)] at hb
          subst hb
          have d2 : decide (9999 < au) = false := decide_eq_false h2
          clear h1 h2
          go_wp2
          go_ret
          exact ⟨rfl, b5⟩
end

section
open Go.RowKit
/-- A slice of these fields. -/
def FL (v : Value) (L : List Fld) (w : World) : Prop :=
  ∃ a cap, v = .slice a L.length cap ∧ L.length ≤ cap ∧ cap ≤ maxLen ∧ (a = none → cap = 0) ∧ ∀ i, i < L.length → ∃ g o u, a = some ⟨g, o, none⟩ ∧ g < w.heap.size ∧
    w.cell? ⟨g, o + i * 4, none⟩ = some (.string (S (L.getD i fd0).tag)) ∧ w.cell? ⟨g, o + i * 4 + 1, none⟩ = some (.string (S (L.getD i fd0).ind)) ∧
    w.cell? ⟨g, o + i * 4 + 2, none⟩ = some u ∧ w.cell? ⟨g, o + i * 4 + 3, none⟩ = some (.int .i64 (L.getD i fd0).auth) ∧ QL u (L.getD i fd0).subs w
theorem FL.after {v : Value} {L : List Fld} {w w' : World} (h : FL v L w) (hb : Below w.heap.size w w') : FL v L w' := by
  obtain ⟨a, cap, rfl, hc, hm, hn, hx⟩ := h
  refine ⟨a, cap, rfl, hc, hm, hn, fun i hi => ?_⟩
  obtain ⟨g, o, u, rfl, hg, h0, h1, h2, h3, hq⟩ := hx i hi
  exact ⟨g, o, u, rfl, Nat.lt_of_lt_of_le hg hb.size, (hb.cell (p := ⟨g, o + i * 4, none⟩) hg).trans h0, (hb.cell (p := ⟨g, o + i * 4 + 1, none⟩) hg).trans h1,
    (hb.cell (p := ⟨g, o + i * 4 + 2, none⟩) hg).trans h2, (hb.cell (p := ⟨g, o + i * 4 + 3, none⟩) hg).trans h3, hq.after hb⟩
theorem FL.length {v : Value} {L : List Fld} {w : World} (h : FL v L w) : ∃ a cap, v = .slice a L.length cap ∧ L.length ≤ cap ∧ cap ≤ maxLen := by
  obtain ⟨a, cap, h1, h2, h3, _⟩ := h
  exact ⟨a, cap, h1, h2, h3⟩
/-- What lies at one field's place. -/
theorem FL.at {v : Value} {L : List Fld} {w : World} (h : FL v L w) (k : Nat) (hk : k < L.length) : ∃ g o cap u, v = .slice (some ⟨g, o, none⟩) L.length cap ∧ g < w.heap.size ∧
    w.cell? ⟨g, o + k * 4, none⟩ = some (.string (S (L.getD k fd0).tag)) ∧ w.cell? ⟨g, o + k * 4 + 1, none⟩ = some (.string (S (L.getD k fd0).ind)) ∧
    w.cell? ⟨g, o + k * 4 + 2, none⟩ = some u ∧ w.cell? ⟨g, o + k * 4 + 3, none⟩ = some (.int .i64 (L.getD k fd0).auth) ∧ QL u (L.getD k fd0).subs w := by
  obtain ⟨a, cap, rfl, hc, hm, hn, hx⟩ := h
  obtain ⟨g, o, u, rfl, hh⟩ := hx k hk
  exact ⟨g, o, cap, u, rfl, hh⟩
/-- A record. -/
def RV (r : Rec) (u : Value) : Value := .agg #[.int .i64 r.id, .int .i64 r.ver, .int .i64 r.kind, .string (S r.lang), u]

/-! Rows of the call's own. -/
def encF (f : Fld) (u : Value) : List Value := [.string (S f.tag), .string (S f.ind), u, .int .i64 f.auth]
def cellsF : List Fld → List Value → List Value
  | f :: t, u :: us => encF f u ++ cellsF t us
  | _, _ => []
theorem cellsF_snoc : ∀ (L : List Fld) (us : List Value) (f : Fld) (u : Value), us.length = L.length → cellsF (L ++ [f]) (us ++ [u]) = cellsF L us ++ encF f u
  | [], [], f, u, _ => by simp [cellsF]
  | a :: s, x :: xs, f, u, h => by
    have := cellsF_snoc s xs f u (by simpa using h)
    simp only [List.cons_append, cellsF, this, List.append_assoc]
theorem cellsF_app : ∀ (L : List Fld) (us : List Value) (M : List Fld) (vs : List Value), us.length = L.length → cellsF (L ++ M) (us ++ vs) = cellsF L us ++ cellsF M vs
  | [], [], M, vs, _ => by simp [cellsF]
  | a :: s, x :: xs, M, vs, h => by
    have := cellsF_app s xs M vs (by simpa using h)
    simp only [List.cons_append, cellsF, this, List.append_assoc]
theorem cellsF_at : ∀ (L : List Fld) (us : List Value) (i : Nat), us.length = L.length → i < L.length → (cellsF L us)[i * 4]? = some (.string (S (L.getD i fd0).tag)) ∧ (cellsF L us)[i * 4 + 1]? = some (.string (S (L.getD i fd0).ind)) ∧
    (cellsF L us)[i * 4 + 2]? = some (us.getD i .nilIface) ∧ (cellsF L us)[i * 4 + 3]? = some (.int .i64 (L.getD i fd0).auth)
  | [], _, _, _, h => by cases h
  | a :: s, x :: xs, 0, _, _ => ⟨rfl, rfl, rfl, rfl⟩
  | a :: s, x :: xs, i + 1, hl, h => by
    have := cellsF_at s xs i (by simpa using hl) (by simpa using h)
    have e : cellsF (a :: s) (x :: xs) = .string (S a.tag) :: .string (S a.ind) :: x :: .int .i64 a.auth :: cellsF s xs := rfl
    rw [e, show (i + 1) * 4 = i * 4 + 1 + 1 + 1 + 1 by omega]
    simp only [List.getElem?_cons_succ]
    exact this
theorem cellsF_length : ∀ (L : List Fld) (us : List Value), us.length = L.length → (cellsF L us).length = L.length * 4
  | [], _, _ => by simp [cellsF]
  | f :: t, u :: us, h => by
    have := cellsF_length t us (by simpa using h)
    simp only [cellsF, List.length_append, this, encF, List.length_cons, List.length_nil]
    omega
theorem cellsF_news {g : Nat} {w : World} : ∀ (L : List Fld) (us : List Value) (o : Nat), us.length = L.length →
    (∀ i, i < L.length → w.cell? ⟨g, o + i * 4, none⟩ = some (.string (S (L.getD i fd0).tag)) ∧ w.cell? ⟨g, o + i * 4 + 1, none⟩ = some (.string (S (L.getD i fd0).ind)) ∧
      w.cell? ⟨g, o + i * 4 + 2, none⟩ = some (us.getD i .nilIface) ∧ w.cell? ⟨g, o + i * 4 + 3, none⟩ = some (.int .i64 (L.getD i fd0).auth)) →
    ∀ j u, (cellsF L us)[j]? = some u → w.cell? ⟨g, o + j, none⟩ = some u
  | [], _, _, _, _, j, u, hu => by simp [cellsF] at hu
  | f :: t, x :: xs, o, hl, h, j, u, hu => by
    have e : cellsF (f :: t) (x :: xs) = .string (S f.tag) :: .string (S f.ind) :: x :: .int .i64 f.auth :: cellsF t xs := rfl
    rw [e] at hu
    have h0 := h 0 (by simp)
    match j, hu with
    | 0, hu => simp at hu; subst hu; simpa using h0.1
    | 1, hu => simp at hu; subst hu; simpa using h0.2.1
    | 2, hu => simp at hu; subst hu; simpa using h0.2.2.1
    | 3, hu => simp at hu; subst hu; simpa using h0.2.2.2
    | j + 4, hu =>
      simp only [List.getElem?_cons_succ] at hu
      have := cellsF_news t xs (o + 4) (by simpa using hl) (fun i hi => by
        have := h (i + 1) (by simpa using hi)
        rw [show o + (i + 1) * 4 = o + 4 + i * 4 by omega] at this
        exact this) j u hu
      rwa [show o + 4 + j = o + (j + 4) by omega] at this
theorem QL.one {u : Value} {L : List Sub} {w : World} (h : QL u L w) : u.oneCell' = true := by
  obtain ⟨a, cap, rfl, _⟩ := h
  rfl
theorem cellsF_one : ∀ (L : List Fld) (us : List Value), (∀ u ∈ us, u.oneCell' = true) → ∀ u ∈ cellsF L us, u.oneCell' = true
  | [], _, _, u, hu => by simp [cellsF] at hu
  | f :: t, [], _, u, hu => by simp [cellsF] at hu
  | f :: t, x :: xs, h, u, hu => by
    simp only [cellsF, List.mem_append, encF, List.mem_cons, List.not_mem_nil, or_false] at hu
    rcases hu with (rfl | rfl | rfl | rfl) | hu
    · rfl
    · rfl
    · exact h _ (by simp)
    · rfl
    · exact cellsF_one t xs (fun y hy => h y (List.mem_cons_of_mem _ hy)) u hu
/-- A row of these fields of the call's own, from block B on, nil while it is empty; their subfields lie in W0. -/
def FR (W0 : World) (B : Nat) (v : Value) (L : List Fld) (w : World) : Prop :=
  ∃ us : List Value, us.length = L.length ∧ w.ownsRow B 49 4 v L.length (cellsF L us) ∧ ∀ i, i < L.length → QL (us.getD i .nilIface) (L.getD i fd0).subs W0
theorem FR.nil (W0 w : World) (B : Nat) : FR W0 B (.slice none 0 0) [] w := ⟨[], rfl, World.ownsRow_nil _ _ _ _, fun i hi => by cases hi⟩
theorem FR.empty (W0 w : World) (B : Nat) (h : B ≤ w.heap.size) : FR W0 B (.slice (some ⟨w.heap.size, 0, none⟩) 0 0) [] (w.alloc (.cells #[] 49)) :=
  ⟨[], rfl, World.ownsRow_made w #[] 0 h (Nat.zero_le _) rfl, fun i hi => by cases hi⟩
theorem FR.fl {W0 : World} {B : Nat} {v : Value} {L : List Fld} {w : World} (h : FR W0 B v L w) (hbel : Below W0.heap.size W0 w) : FL v L w := by
  obtain ⟨us, hl, hown, hq⟩ := h
  rcases hown.2 with ⟨rfl, h0⟩ | ⟨g, cap, cur, rfl, hb, hg, hc, hm, hs, ht⟩
  · have : L = [] := List.eq_nil_of_length_eq_zero h0
    subst this
    exact ⟨none, 0, rfl, Nat.le_refl _, Nat.zero_le _, fun _ => rfl, fun i hi => by cases hi⟩
  · have hadd : ∀ j, (⟨g, 0, none⟩ : Addr).add j = ⟨g, j, none⟩ := fun j => by unfold Addr.add; split <;> simp_all
    refine ⟨_, cap, rfl, hc, hm, (fun h => by cases h), fun i hi => ?_⟩
    have hcc := cellsF_at L us i hl hi
    have t0 := hown.cells (g := g) rfl _ _ hcc.1
    have t1 := hown.cells (g := g) rfl _ _ hcc.2.1
    have t2 := hown.cells (g := g) rfl _ _ hcc.2.2.1
    have t3 := hown.cells (g := g) rfl _ _ hcc.2.2.2
    rw [hadd] at t0 t1 t2 t3
    refine ⟨g, 0, us.getD i .nilIface, rfl, (Array.getElem?_eq_some_iff.1 hg).1, ?_⟩
    rw [Nat.zero_add]
    exact ⟨t0, t1, t2, t3, (hq i hi).after hbel⟩
theorem FR.after {W0 : World} {B : Nat} {v : Value} {L : List Fld} {w w' : World} (h : FR W0 B v L w) (hb : Below w.heap.size w w') : FR W0 B v L w' := by
  obtain ⟨us, h1, h2, h3⟩ := h
  exact ⟨us, h1, own_after h2 hb, h3⟩
theorem own_put {w : World} {B e size n : Nat} {v : Value} {xs : List Value} (h : w.ownsRow B e size v n xs) {p : Addr} (hp : p.block < B) (u : Value) : (w.setCell p u).ownsRow B e size v n xs := by
  refine ⟨h.1, ?_⟩
  rcases h.2 with hn | ⟨g, cap, cur, hv, hB', hg, rest⟩
  · exact .inl hn
  · exact .inr ⟨g, cap, cur, hv, hB', (Below.heap_setCell _ _ _ _ (by omega)).trans hg, rest⟩
theorem FR.put {W0 : World} {B : Nat} {v : Value} {L : List Fld} {w : World} (h : FR W0 B v L w) {p : Addr} (hp : p.block < B) (u : Value) : FR W0 B v L (w.setCell p u) := by
  obtain ⟨us, h1, h2, h3⟩ := h
  exact ⟨us, h1, own_put h2 hp u, h3⟩
theorem getD_app (us vs : List Value) (i : Nat) : (us ++ vs).getD i .nilIface = if i < us.length then us.getD i .nilIface else vs.getD (i - us.length) .nilIface := by
  rw [List.getD_eq_getElem?_getD]
  by_cases h : i < us.length
  · rw [if_pos h, List.getElem?_append_left h, List.getD_eq_getElem?_getD]
  · rw [if_neg h, List.getElem?_append_right (by omega), List.getD_eq_getElem?_getD]
theorem getD_appF (us vs : List Fld) (i : Nat) : (us ++ vs).getD i fd0 = if i < us.length then us.getD i fd0 else vs.getD (i - us.length) fd0 := by
  rw [List.getD_eq_getElem?_getD]
  by_cases h : i < us.length
  · rw [if_pos h, List.getElem?_append_left h, List.getD_eq_getElem?_getD]
  · rw [if_neg h, List.getElem?_append_right (by omega), List.getD_eq_getElem?_getD]
/-- What the walk needs for an append to a row: its cells; and the longer row again. -/
theorem FR.open {W0 : World} {B : Nat} {v : Value} {L : List Fld} {w : World} (h : FR W0 B v L w) :
    ∃ xs : List Value, w.ownsRow B 49 4 v L.length xs ∧ ∀ (M : List Fld) (vs : List Value) (v' : Value) (w' : World), vs.length = M.length → (∀ i, i < M.length → QL (vs.getD i .nilIface) (M.getD i fd0).subs W0) →
      w'.ownsRow B 49 4 v' (L.length + M.length) (xs ++ cellsF M vs) → FR W0 B v' (L ++ M) w' := by
  obtain ⟨us, hl, hown, hq⟩ := h
  refine ⟨_, hown, fun M vs v' w' hvl hvq hown' => ⟨us ++ vs, by rw [List.length_append, List.length_append, hl, hvl], ?_, fun i hi => ?_⟩⟩
  · rw [cellsF_app L us M vs hl, List.length_append]
    exact hown'
  · rw [getD_app, getD_appF, hl]
    by_cases h1 : i < L.length
    · rw [if_pos h1, if_pos h1]; exact hq i h1
    · rw [if_neg h1, if_neg h1]; exact hvq _ (by rw [List.length_append] at hi; omega)
/-- The subfields' values of a slice of fields. -/
theorem FL.vals {v : Value} {L : List Fld} {w : World} (h : FL v L w) : ∃ (a : Option Addr) (cap : Nat) (us : List Value), v = .slice a L.length cap ∧ L.length ≤ cap ∧ cap ≤ maxLen ∧ (a = none → cap = 0) ∧ us.length = L.length ∧ (∀ i, i < L.length → QL (us.getD i .nilIface) (L.getD i fd0).subs w) ∧
    ∀ i, i < L.length → ∃ g o, a = some ⟨g, o, none⟩ ∧ g < w.heap.size ∧ w.cell? ⟨g, o + i * 4, none⟩ = some (.string (S (L.getD i fd0).tag)) ∧ w.cell? ⟨g, o + i * 4 + 1, none⟩ = some (.string (S (L.getD i fd0).ind)) ∧
      w.cell? ⟨g, o + i * 4 + 2, none⟩ = some (us.getD i .nilIface) ∧ w.cell? ⟨g, o + i * 4 + 3, none⟩ = some (.int .i64 (L.getD i fd0).auth) := by
  obtain ⟨a, cap, rfl, hc, hm, hn, hx⟩ := h
  have hch : ∀ i, ∃ u, i < L.length → ∃ g o, a = some ⟨g, o, none⟩ ∧ g < w.heap.size ∧ w.cell? ⟨g, o + i * 4, none⟩ = some (.string (S (L.getD i fd0).tag)) ∧ w.cell? ⟨g, o + i * 4 + 1, none⟩ = some (.string (S (L.getD i fd0).ind)) ∧
      w.cell? ⟨g, o + i * 4 + 2, none⟩ = some u ∧ w.cell? ⟨g, o + i * 4 + 3, none⟩ = some (.int .i64 (L.getD i fd0).auth) ∧ QL u (L.getD i fd0).subs w := by
    intro i
    by_cases hi : i < L.length
    · obtain ⟨g, o, u, h1, h2⟩ := hx i hi
      exact ⟨u, fun _ => ⟨g, o, h1, h2⟩⟩
    · exact ⟨.nilIface, fun h => absurd h hi⟩
  obtain ⟨F, hF⟩ : ∃ F : Nat → Value, ∀ i, i < L.length → ∃ g o, a = some ⟨g, o, none⟩ ∧ g < w.heap.size ∧ w.cell? ⟨g, o + i * 4, none⟩ = some (.string (S (L.getD i fd0).tag)) ∧ w.cell? ⟨g, o + i * 4 + 1, none⟩ = some (.string (S (L.getD i fd0).ind)) ∧
      w.cell? ⟨g, o + i * 4 + 2, none⟩ = some (F i) ∧ w.cell? ⟨g, o + i * 4 + 3, none⟩ = some (.int .i64 (L.getD i fd0).auth) ∧ QL (F i) (L.getD i fd0).subs w := ⟨fun i => Classical.choose (hch i), fun i => Classical.choose_spec (hch i)⟩
  have hg : ∀ i, i < L.length → ((List.range L.length).map F).getD i .nilIface = F i := fun i hi => by
    rw [List.getD_eq_getElem?_getD, List.getElem?_map, List.getElem?_range hi]
    simp
  refine ⟨a, cap, (List.range L.length).map F, rfl, hc, hm, hn, by simp, fun i hi => ?_, fun i hi => ?_⟩
  · rw [hg i hi]
    obtain ⟨g, o, _, _, _, _, _, _, hq⟩ := hF i hi
    exact hq
  · rw [hg i hi]
    obtain ⟨g, o, h1, h2, h3, h4, h5, h6, _⟩ := hF i hi
    exact ⟨g, o, h1, h2, h3, h4, h5, h6⟩
theorem infoFld : (Tryd.prog.info? 49).map (fun i => (i.zero, i.size, i.bytes)) = some (some (.agg #[.string ⟨#[]⟩, .string ⟨#[]⟩, .slice none 0 0, .int .i64 0]), 4, 64) := by kernel_rfl
theorem info_fld : ∃ i0, Tryd.prog.info? 49 = some i0 ∧ i0.zero = some (.agg #[.string ⟨#[]⟩, .string ⟨#[]⟩, .slice none 0 0, .int .i64 0]) ∧ i0.size = 4 ∧ i0.bytes = 64 := by
  obtain ⟨i0, h0, h2⟩ := Option.map_eq_some_iff.1 infoFld
  simp only [Prod.mk.injEq] at h2
  exact ⟨i0, h0, h2.1, h2.2.1, h2.2.2⟩
/-- Fields that can be appended: nothing at no address, or these cells there. -/
def NW (W0 : World) (ao : Option Addr) (M : List Fld) (w : World) : Prop :=
  (ao = none → M = []) ∧ ∀ ad, ao = some ad → ∃ us : List Value, us.length = M.length ∧ (∀ i, i < M.length → QL (us.getD i .nilIface) (M.getD i fd0).subs W0) ∧ ∀ j u, (cellsF M us)[j]? = some u → w.cell? (ad.add j) = some u
/-- append of a slice of fields to a row of the call's own. -/
theorem append_fr {ops : Array Oper} {rest : List Oper} {o : Oper} {a : Act} {Q : Exit → Act → World → Prop} (w : World) (hgd : o.guard = none) (s x : Operand)
    (ho : o.op = .call { callee := .builtin .append, args := #[s, x], argTypes := #[22, 22] })
    (W0 : World) (B : Nat) (v : Value) (L : List Fld) (hs : a.eval s = v) (hfr : FR W0 B v L w) (ao : Option Addr) (M : List Fld) (m c : Nat) (hx : a.eval x = .slice ao m c) (hm : M.length = m) (hc : ao = none → c = 0) (hN : NW W0 ao M w)
    (hz : L.length + M.length ≤ 100000) (hB : B ≤ w.heap.size) (N : Nat) (W1 : World) (hNB : N ≤ B) (hb : Below N W1 w)
    (h : ∀ v' w', FR W0 B v' (L ++ M) w' → Below N W1 w' → B ≤ w'.heap.size → (v' = .slice none 0 0 ↔ v = .slice none 0 0 ∧ m = 0) → wpList Tryd.prog ops Q rest (a.put o.dst v') w') : wpList Tryd.prog ops Q (o :: rest) a w := by
  obtain ⟨i0, hi, hz0, hz1, hz2⟩ := info_fld
  obtain ⟨xs, hrow, hpush⟩ := hfr.open
  cases ao with
  | none =>
    obtain rfl := hN.1 rfl
    obtain rfl := hc rfl
    obtain rfl : m = 0 := hm.symm
    refine wpList_append_own_none hgd s x _ ho B _ i0 4 Tryd.underlying22 hi v L.length xs hs hrow hx (h v w ?_ hb hB ?_)
    · rw [List.append_nil]; exact hfr
    · simp
  | some ad =>
    obtain ⟨us, hl, hq, hcell⟩ := hN.2 ad rfl
    refine wpList_append_own w hgd s x _ ho B _ i0 (.agg #[.string ⟨#[]⟩, .string ⟨#[]⟩, .slice none 0 0, .int .i64 0]) 4 64 Tryd.underlying22 hi hz0 hz1 hz2 rfl (by decide) v L.length xs hs hrow ad m c (cellsF M us) hx
      (by rw [cellsF_length M us hl, hm]) hcell (cellsF_one M us fun u hu => ?_) (by unfold maxLen; omega) (by omega) hB fun v' w' hown' hgrow hnil => h v' w' ?_ ?_ ?_ hnil
    · obtain ⟨i, hi, rfl⟩ := List.mem_iff_getElem.1 hu
      have := (hq i (by omega)).one
      rwa [List.getD_eq_getElem?_getD, List.getElem?_eq_getElem hi] at this
    · rw [← hm] at hown'
      exact hpush M us v' w' hl hq hown'
    · exact hb.grown hgrow (by omega) (fun j hj => Nat.le_trans hNB (hrow.lt j hj).1)
    · exact Nat.le_trans hB hgrow.size
theorem cells_four (w : World) (a b c d : Value) (t : TypeId) : ∀ j u, [a, b, c, d][j]? = some u → (w.alloc (.cells #[a, b, c, d] t)).cell? ((⟨w.heap.size, 0, none⟩ : Addr).add j) = some u := by
  intro j u hj
  match j, hj with
  | 0, hj => simp at hj; subst hj; simp [Addr.add]
  | 1, hj => simp at hj; subst hj; simp [Addr.add]
  | 2, hj => simp at hj; subst hj; simp [Addr.add]
  | 3, hj => simp at hj; subst hj; simp [Addr.add]
  | (j + 4), hj => simp at hj
end

end Go.Proofs.YtiledacfdaenbaaDoor
