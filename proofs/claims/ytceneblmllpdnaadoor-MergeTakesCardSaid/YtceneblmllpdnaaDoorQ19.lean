/- Merged: FF07. -/
import Derived.Test.YtceneblmllpdnaaDoorQ18
import Derived.Test.YtceneblmllpdnaaDoorQ10
namespace Go.Proofs.YtceneblmllpdnaaDoor

section
open Go.RowKit Go.PlainAid
set_option maxHeartbeats 16000000 in
theorem rightSub_any (s : Sub) (hz : s.2.length ≤ 1000000) (er : Int) (hb : subE s = er) (w : World) (hE : Env w) :
    Calls Tryd.prog 64 #[.agg #[.int .u8 (s.1.toNat : Int), .string (S s.2)]] w fun e w' => e = .returned (.int .i64 er) ∧ Below w.heap.size w w' := by
  obtain ⟨code, val⟩ := s
  have b0 := (Below.refl w.heap.size w).alloc (Nat.le_refl _) (.cells #[.int .u8 (code.toNat : Int), .string (S val)] 65)
  have k1 : (w.alloc (.cells #[.int .u8 (code.toNat : Int), .string (S val)] 65)).cell? ⟨w.heap.size, 1, none⟩ = some (.string (S val)) := by simp
  have hlx : w.heap.size < (w.alloc (.cells #[.int .u8 (code.toNat : Int), .string (S val)] 65)).heap.size := by simp
  have cV := Lib.hid (fun b hb => cValid val hz b hb _ (hE.after b0))
  have hEm : ((S val).toList == []) = decide (val = []) := by
    rw [ByteArray.toList_eq]
    show (val == []) = _
    cases val with
    | nil => rfl
    | cons y t => simp
  have hEm2 : (S val).toList.isEmpty = decide (val = []) := by
    rw [ByteArray.toList_eq]
    show val.isEmpty = _
    cases val with
    | nil => rfl
    | cons y t => simp
  have hvs := S_size val
  have hcd : codeB code = (digB code || letB code) := rfl
  unfold subE at hb
  simp only at hz hb ⊢
  obtain ⟨lb, hlb⟩ : ∃ lb, letB code = lb := ⟨_, rfl⟩
  obtain ⟨db, hdb⟩ : ∃ db, digB code = db := ⟨_, rfl⟩
  have cL := Lib.hid (fun W => fletter_any code lb hlb W)
  have cD := Lib.hid (fun W => fdigit_any code db hdb W)
  rw [hlb, hdb] at hcd
  rw [hcd] at hb
  clear hlb hdb hcd hE
  generalize ((code.toNat : Nat) : Int) = y at *
  by_cases hn : (db || lb) = false
  · rw [if_pos hn] at hb
    subst hb
    obtain ⟨rfl, rfl⟩ : db = false ∧ lb = false := by simpa using hn
    go_enter Tryd.func64, Tryd.ntmps64
    go_wp2_with fail
    refine (cL.out _).mono ?_
    rintro e w1 ⟨rfl, rfl⟩
    go_wp2_with fail
    refine (cD.out _).mono ?_
    rintro e w1 ⟨rfl, rfl⟩
    go_wp2
    go_ret
    exact ⟨rfl, b0⟩
  rw [if_neg hn] at hb
  have hor : lb = true ∨ (lb = false ∧ db = true) := by cases lb <;> cases db <;> simp_all
  clear hn
  by_cases hv0 : val = []
  · rw [decide_eq_true hv0] at hEm hEm2
    rw [if_pos hv0] at hb
    subst hb
    clear hv0
    rcases hor with rfl | ⟨rfl, rfl⟩
    · go_enter Tryd.func64, Tryd.ntmps64
      go_wp2_with fail
      refine (cL.out _).mono ?_
      rintro e w1 ⟨rfl, rfl⟩
      go_wp2
      go_ret
      exact ⟨rfl, b0⟩
    · go_enter Tryd.func64, Tryd.ntmps64
      go_wp2_with fail
      refine (cL.out _).mono ?_
      rintro e w1 ⟨rfl, rfl⟩
      go_wp2_with fail
      refine (cD.out _).mono ?_
      rintro e w1 ⟨rfl, rfl⟩
      go_wp2
      go_ret
      exact ⟨rfl, b0⟩
  rw [decide_eq_false hv0] at hEm hEm2
  rw [if_neg hv0] at hb
  clear hv0
  cases hvt : validT val
  · have cV := Lib.hid (cV.out false hvt)
    rw [if_pos hvt] at hb
    subst hb
    clear hvt
    rcases hor with rfl | ⟨rfl, rfl⟩
    · go_enter Tryd.func64, Tryd.ntmps64
      go_wp2_with fail
      refine (cL.out _).mono ?_
      rintro e w1 ⟨rfl, rfl⟩
      go_wp2_with fail
      refine cV.out.mono ?_
      rintro e w2 ⟨rfl, c⟩
      have b2 := b0.trans (c.mono b0.size)
      go_wp2
      go_ret
      exact ⟨rfl, b2⟩
    · go_enter Tryd.func64, Tryd.ntmps64
      go_wp2_with fail
      refine (cL.out _).mono ?_
      rintro e w1 ⟨rfl, rfl⟩
      go_wp2_with fail
      refine (cD.out _).mono ?_
      rintro e w1 ⟨rfl, rfl⟩
      go_wp2_with fail
      refine cV.out.mono ?_
      rintro e w2 ⟨rfl, c⟩
      have b2 := b0.trans (c.mono b0.size)
      go_wp2
      go_ret
      exact ⟨rfl, b2⟩
  have cV := Lib.hid (cV.out true hvt)
  rw [if_neg (by rw [hvt]; decide)] at hb
  clear hvt
  obtain ⟨lg, hlg⟩ : ∃ lg, decide ((200 : Int) < (val.length : Int)) = lg := ⟨_, rfl⟩
  have her : er = if lg = true then 4 else 0 := by
    rw [← hb, ← hlg]
    by_cases h : 200 < val.length
    · rw [if_pos h, if_pos (decide_eq_true (by omega))]
    · rw [if_neg h, if_neg]
      rw [decide_eq_true_iff]
      omega
  clear hb
  generalize val.length = vl at *
  rcases hor with rfl | ⟨rfl, rfl⟩
  · go_enter Tryd.func64, Tryd.ntmps64
    go_wp2_with fail
    refine (cL.out _).mono ?_
    rintro e w1 ⟨rfl, rfl⟩
    go_wp2_with fail
    refine cV.out.mono ?_
    rintro e w2 ⟨rfl, c⟩
    have b2 := b0.trans (c.mono b0.size)
    have k1b := (c.cell (p := ⟨w.heap.size, 1, none⟩) hlx).trans k1
    clear c k1
    cases lg
    · subst her
      go_wp2
      go_ret
      exact ⟨rfl, b2⟩
    · subst her
      go_wp2
      go_ret
      exact ⟨rfl, b2⟩
  · go_enter Tryd.func64, Tryd.ntmps64
    go_wp2_with fail
    refine (cL.out _).mono ?_
    rintro e w1 ⟨rfl, rfl⟩
    go_wp2_with fail
    refine (cD.out _).mono ?_
    rintro e w1 ⟨rfl, rfl⟩
    go_wp2_with fail
    refine cV.out.mono ?_
    rintro e w2 ⟨rfl, c⟩
    have b2 := b0.trans (c.mono b0.size)
    have k1b := (c.cell (p := ⟨w.heap.size, 1, none⟩) hlx).trans k1
    clear c k1
    cases lg
    · subst her
      go_wp2
      go_ret
      exact ⟨rfl, b2⟩
    · subst her
      go_wp2
      go_ret
      exact ⟨rfl, b2⟩

/-- What the tag's test says. -/
theorem tag_cases (l : List UInt8) : (l.length ≠ 3 ∧ tagB l = false) ∨ (l.length = 3 ∧ l.all digB = false ∧ tagB l = false) ∨ (l.length = 3 ∧ l.all digB = true ∧ Op.bytesLess l [48, 49, 48] = !tagB l) := by
  by_cases h3 : l.length = 3
  · match l, h3 with
    | [a, b, c], _ =>
      have e : tagB [a, b, c] = (digB a && digB b && digB c && !(decide (a = 48) && decide (b = 48))) := by
        show (decide ((3 : Nat) = 3) && digB a && digB b && digB c && !(decide (a = 48) && decide (b = 48))) = _
        simp
      have ea : [a, b, c].all digB = (digB a && digB b && digB c) := by simp [Bool.and_assoc]
      cases hd : (digB a && digB b && digB c)
      · refine .inr (.inl ⟨rfl, by rw [ea, hd], by rw [e, hd, Bool.false_and]⟩)
      · refine .inr (.inr ⟨rfl, by rw [ea, hd], ?_⟩)
        simp only [Bool.and_eq_true] at hd
        rw [less_three [a, b, c] rfl ((digB_iff _).1 hd.1.1).1 ((digB_iff _).1 hd.1.2).1 ((digB_iff _).1 hd.2).1, e, hd.1.1, hd.1.2, hd.2]
        simp
  · refine .inl ⟨h3, ?_⟩
    unfold tagB
    rw [decide_eq_false h3]
    rfl
theorem ind_cases (l : List UInt8) : (l.length ≠ 2 ∧ indsB l = false) ∨ (l.length = 2 ∧ (subL 32 [] l).all digB = indsB l) := by
  by_cases h2 : l.length = 2
  · match l, h2 with
    | [a, b], _ =>
      refine .inr ⟨rfl, ?_⟩
      rw [sub_inds]
      show _ = (decide ((2 : Nat) = 2) && indB a && indB b)
      simp
  · refine .inl ⟨h2, ?_⟩
    unfold indsB
    rw [decide_eq_false h2]
    rfl
theorem sub_le (c : UInt8) (l : List UInt8) : (subL c [] l).length ≤ l.length := by
  induction l with
  | nil => simp [subL]
  | cons x t ih =>
    unfold subL at ih ⊢
    rw [List.flatMap_cons, List.length_append]
    split
    · simp only [List.length_nil, List.length_cons]; omega
    · simp only [List.length_nil, List.length_cons]; omega
theorem lss_010 (l : List UInt8) (b : Bool) (h : Op.bytesLess l [48, 49, 48] = b) : Op.bytesLess (S l).toList [48, 49, 48] = b := by
  have e2 : (S l).toList = l := by rw [ByteArray.toList_eq]; rfl
  rw [e2, h]

set_option maxHeartbeats 16000000 in
set_option maxRecDepth 100000 in
theorem fRight_any (f : Fld) (u : Value) (w : World) (hE : Env w) (hu : QL u f.subs w) (hz : ∀ i, i < f.subs.length → (f.subs.getD i sub0).2.length ≤ 1000000) (er : Int) (hb : rightI f = er) :
    Calls Tryd.prog 52 #[FV f u] w fun e w' => e = .returned (.int .i64 er) ∧ Below w.heap.size w w' := by
  obtain ⟨a, cap, rfl, hcap, hmax, _, hcell⟩ := hu
  unfold maxLen at hmax
  unfold FV
  unfold rightI at hb
  obtain ⟨n, hn⟩ : ∃ n, f.subs.length = n := ⟨_, rfl⟩
  have HCell := Lib.hid hcell
  have HZ := Lib.hid hz
  rw [hn] at hcap hb ⊢
  have HN := Lib.hid hn
  clear hcell hn hz
  obtain ⟨W0, hW0⟩ : ∃ W0, w.alloc (.cells #[.string (S f.tag), .string (S f.ind), .slice a n cap, .int .i64 f.auth] 45) = W0 := ⟨_, rfl⟩
  have b0 : Below w.heap.size w W0 := by rw [← hW0]; exact (Below.refl w.heap.size w).alloc (Nat.le_refl _) _
  have hlt : w.heap.size < W0.heap.size := by rw [← hW0]; simp
  have k0 : W0.cell? ⟨w.heap.size, 0, none⟩ = some (.string (S f.tag)) := by rw [← hW0]; simp
  have k1 : W0.cell? ⟨w.heap.size, 1, none⟩ = some (.string (S f.ind)) := by rw [← hW0]; simp
  have k2 : W0.cell? ⟨w.heap.size, 2, none⟩ = some (.slice a n cap) := by rw [← hW0]; simp
  have k3 : W0.cell? ⟨w.heap.size, 3, none⟩ = some (.int .i64 f.auth) := by rw [← hW0]; simp
  have HE := Lib.hid (hE.after b0)
  have HW0 := Lib.hid hW0
  clear hW0 hE
  have hts := S_size f.tag
  have his := S_size f.ind
  rcases tag_cases f.tag with ⟨h3, ht⟩ | ⟨h3, hd, ht⟩ | ⟨h3, hd, hl⟩
  · rw [if_pos ht] at hb
    subst hb
    have t1 : (((f.tag.length : Nat) : Int) != 3) = true := by simp; omega
    clear h3 ht
    generalize f.tag.length = tl at *
    go_enter Tryd.func52, Tryd.ntmps52
    go_wp2
    go_ret
    rw [HW0.out]
    exact ⟨rfl, b0⟩
  · have cD := Lib.hid (fun W => fdigits_any f.tag (by omega) false hd W)
    rw [if_pos ht] at hb
    subst hb
    rw [h3] at hts
    clear h3 ht hd
    go_enter Tryd.func52, Tryd.ntmps52
    go_wp2_with fail
    refine (cD.out _).mono ?_
    rintro e w1 ⟨rfl, rfl⟩
    go_wp2
    go_ret
    rw [HW0.out]
    exact ⟨rfl, b0⟩
  have cD := Lib.hid (fun W => fdigits_any f.tag (by omega) true hd W)
  have hls := lss_010 f.tag _ hl
  rw [h3] at hts
  cases ht : tagB f.tag
  · rw [if_pos ht] at hb
    subst hb
    simp only [ht, Bool.not_false] at hls
    clear h3 ht hd hl
    go_enter Tryd.func52, Tryd.ntmps52
    go_wp2_with fail
    refine (cD.out _).mono ?_
    rintro e w1 ⟨rfl, rfl⟩
    go_wp2
    go_ret
    rw [HW0.out]
    exact ⟨rfl, b0⟩
  rw [if_neg (by rw [ht]; intro h; cases h)] at hb
  simp only [ht, Bool.not_true] at hls
  clear h3 ht hd hl
  rcases ind_cases f.ind with ⟨h2, hi⟩ | ⟨h2, hd2⟩
  · rw [if_pos hi] at hb
    subst hb
    have t1 : (((f.ind.length : Nat) : Int) != 2) = true := by simp; omega
    clear h2 hi
    generalize f.ind.length = il at *
    go_enter Tryd.func52, Tryd.ntmps52
    go_wp2_with fail
    refine (cD.out _).mono ?_
    rintro e w1 ⟨rfl, rfl⟩
    go_wp2
    go_ret
    rw [HW0.out]
    exact ⟨rfl, b0⟩
  have cS := Lib.hid (cStrike f.ind (by omega) W0 HE.out)
  have hsl := sub_le 32 f.ind
  rw [h2] at his
  cases hi : indsB f.ind
  · have cD2 := Lib.hid (fun W => fdigits_any (subL 32 [] f.ind) (by omega) false (by rw [hd2, hi]) W)
    rw [if_pos hi] at hb
    subst hb
    clear h2 hi hd2 hsl
    generalize S (subL 32 [] f.ind) = si at *
    go_enter Tryd.func52, Tryd.ntmps52
    go_wp2_with fail
    refine (cD.out _).mono ?_
    rintro e w1 ⟨rfl, rfl⟩
    go_wp2_with fail
    rw [HW0.out]
    refine (cS.out).mono ?_
    rintro e w1 ⟨rfl, c⟩
    have b1 := b0.trans (c.mono b0.size)
    go_wp2_with fail
    refine (cD2.out _).mono ?_
    rintro e w2 ⟨rfl, rfl⟩
    go_wp2
    go_ret
    exact ⟨rfl, b1⟩
  have cD2 := Lib.hid (fun W => fdigits_any (subL 32 [] f.ind) (by omega) true (by rw [hd2, hi]) W)
  rw [if_neg (by rw [hi]; intro h; cases h)] at hb
  clear h2 hi hd2 hsl
  generalize S (subL 32 [] f.ind) = si at *
  have HB := Lib.hid hb
  clear hb
  go_enter Tryd.func52, Tryd.ntmps52
  go_wp2_with fail
  refine (cD.out _).mono ?_
  rintro e w1 ⟨rfl, rfl⟩
  go_wp2_with fail
  rw [HW0.out]
  refine (cS.out).mono ?_
  rintro e w1 ⟨rfl, c⟩
  have b1 := b0.trans (c.mono b0.size)
  have HE1 := Lib.hid (HE.out.after c)
  have hb0 := c
  have m2 := (c.cell (p := ⟨w.heap.size, 2, none⟩) hlt).trans k2
  have m3 := (c.cell (p := ⟨w.heap.size, 3, none⟩) hlt).trans k3
  have hlt1 : w.heap.size < w1.heap.size := Nat.lt_of_lt_of_le hlt c.size
  clear c k0 k1 k2 k3 HE cS
  go_wp2_with fail
  refine (cD2.out _).mono ?_
  rintro e w2 ⟨rfl, hw2⟩
  rw [hw2]
  clear hw2 w2
  clear cD cD2 hls
  by_cases hn0 : n = 0
  · have hb := HB.out
    rw [if_pos hn0] at hb
    subst hb
    have t2 : ((n : Int) == 0) = true := by simp; omega
    clear hn0 HB
    go_wp2
    go_ret
    exact ⟨rfl, b1⟩
  have t2 : ((n : Int) == 0) = false := by simp; omega
  by_cases hn16 : 16 < n
  · have hb := HB.out
    rw [if_neg hn0, if_pos hn16] at hb
    subst hb
    have t3 : decide ((16 : Int) < (n : Int)) = true := by simp; omega
    clear hn0 HB hn16
    go_wp2
    go_ret
    exact ⟨rfl, b1⟩
  have t3 : decide ((16 : Int) < (n : Int)) = false := by simp; omega
  have hb := HB.out
  rw [if_neg hn0, if_neg hn16] at hb
  clear HB hn0 hn16
  have HB := Lib.hid hb
  clear hb
  go_wp2
  go_loopw [47] (fun i wr => ∃ k : Nat, k ≤ n ∧ i = .int .i64 (k : Int) ∧ RowKit.Hid (∀ j, j < k → subE (f.subs.getD j sub0) = 0) ∧ Below w1.heap.size w1 wr) (fun i _ => n - (intOf i).toNat)
  case atStart => exact ⟨0, Nat.zero_le _, rfl, (fun j hj => by omega), Below.refl _ _⟩
  case round =>
    obtain ⟨k, hk, rfl, HJ, hbw⟩ := hrel
    have j3 := (hbw.cell (p := ⟨w.heap.size, 3, none⟩) hlt1).trans m3
    by_cases hkn : k < n
    · obtain ⟨g, o, rfl, hg, c1, c2⟩ := HCell.out k (by rw [HN.out]; exact hkn)
      have hg1 : g < w1.heap.size := Nat.lt_of_lt_of_le hg b1.size
      have c1 : wr.cell? ⟨g, o + k * 2, none⟩ = some (.int .u8 ((f.subs.getD k sub0).1.toNat : Int)) := ((hbw.cell (p := ⟨g, o + k * 2, none⟩) hg1).trans (b1.cell (p := ⟨g, o + k * 2, none⟩) hg)).trans c1
      have c2 : wr.cell? ⟨g, o + k * 2 + 1, none⟩ = some (.string (S (f.subs.getD k sub0).2)) := ((hbw.cell (p := ⟨g, o + k * 2 + 1, none⟩) hg1).trans (b1.cell (p := ⟨g, o + k * 2 + 1, none⟩) hg)).trans c2
      have i1 : (0 : Int) ≤ (k : Int) := by omega
      have i2 : (k : Int) < (n : Int) := by omega
      have hsz := hbw.size
      have hx := firstE_hit f.subs k (by rw [HN.out]; exact hkn) HJ.out
      have hval := HZ.out k (by rw [HN.out]; exact hkn)
      have HJ2 : RowKit.Hid (subE (f.subs.getD k sub0) = 0 → ∀ j, j < k + 1 → subE (f.subs.getD j sub0) = 0) := by
        intro h0 j hj
        rcases Nat.lt_or_ge j k with h | h
        · exact HJ.out j h
        · rw [show j = k by omega]; exact h0
      obtain ⟨sb, hsub⟩ : ∃ z, f.subs.getD k sub0 = z := ⟨_, rfl⟩
      rw [hsub] at c1 c2 hx hval HJ2
      have hba : Below w1.heap.size w1 (wr.alloc (.cells #[.int .u8 (sb.1.toNat : Int), .string (S sb.2)] 65)) := hbw.alloc hsz _
      have cR := Lib.hid (fun er' h' => rightSub_any sb hval er' h' _ (HE1.out.after hba))
      have HX := Lib.hid hx
      clear hsub HJ hbw hx
      obtain ⟨es, hes⟩ : ∃ es, subE sb = es := ⟨_, rfl⟩
      have cR := Lib.hid (cR.out es hes)
      by_cases h0 : es = 0
      · subst h0
        have HJ3 := Lib.hid (HJ2.out hes)
        clear HJ2 HX hes
        generalize ((sb.1.toNat : Nat) : Int) = y at *
        generalize S sb.2 = x at *
        go_wp2_with fail
        refine cR.out.mono ?_
        rintro e w5 ⟨rfl, c⟩
        have b5 := hba.trans (c.mono hba.size)
        go_wp2
        go_roundw
        case rel => exact ⟨k + 1, by omega, by go_num, HJ3.out, b5⟩
        case measure => simp [intOf]; omega
      · have hb := HB.out
        have hfe : firstE f.subs = es := by rw [HX.out (by rw [hes]; exact h0), hes]
        rw [hfe, if_pos h0] at hb
        subst hb
        have t5 : (es != 0) = true := by simpa using h0
        clear HJ2 HX hes HB hfe h0
        generalize ((sb.1.toNat : Nat) : Int) = y at *
        generalize S sb.2 = x at *
        go_wp2_with fail
        refine cR.out.mono ?_
        rintro e w5 ⟨rfl, c⟩
        have b5 := b1.trans ((hba.trans (c.mono hba.size)).mono b1.size)
        go_wp2
        go_ret
        exact ⟨rfl, b5⟩
    · obtain rfl : k = n := by omega
      have hb := HB.out
      rw [firstE_miss f.subs (fun j hj => HJ.out j (by rw [HN.out] at hj; exact hj)), if_neg (fun h => h rfl)] at hb
      have b5 := b1.trans (hbw.mono b1.size)
      clear HB HJ hbw
      generalize f.auth = au at *
      by_cases h1 : au < 0
      · rw [if_pos (Or.inl h1)] at hb
        subst hb
        have d1 : decide (au < 0) = true := decide_eq_true h1
        clear h1
        go_wp2
        go_ret
        exact ⟨rfl, b5⟩
      · have d1 : decide (au < 0) = false := decide_eq_false h1
        by_cases h2 : 9999 < au
        · rw [if_pos (Or.inr h2)] at hb
          subst hb
          have d2 : decide (9999 < au) = true := decide_eq_true h2
          clear h1 h2
          go_wp2
          go_ret
          exact ⟨rfl, b5⟩
        · rw [if_neg (fun h => h.elim h1 h2)] at hb
          subst hb
          have d2 : decide (9999 < au) = false := decide_eq_false h2
          clear h1 h2
          go_wp2
          go_ret
          exact ⟨rfl, b5⟩
end

end Go.Proofs.YtceneblmllpdnaaDoor
