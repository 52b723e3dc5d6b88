/- Merged: R05F, R15B, Plain12C, Own2. -/
import Derived.Test.YtfjfpefpdlecbaaGreatDoorQ11
import Derived.Test.YtfjfpefpdlecbaaGreatDoorQ08
import Derived.Test.YtfjfpefpdlecbaaGreatDoorQ10
import Derived.Test.YtfjfpefpdlecbaaGreatDoorQ02
import Derived.Laws.AppendOwn
import Derived.Below
import Derived.WalkKit
namespace Go.Proofs.YtfjfpefpdlecbaaGreatDoor

section
open Go.RowKit Go.PlainAid
theorem comp_form (a : Nat) (ha : a ≤ 1000000000) : Int.tmod (a : Int) 10 = ((a % 10 : Nat) : Int) ∧ (a : Int) % 10 = ((a % 10 : Nat) : Int) ∧ Int.tmod (10 - ((a % 10 : Nat) : Int)) 10 = ((comp a : Nat) : Int) ∧ (10 - ((a % 10 : Nat) : Int)) % 10 = ((comp a : Nat) : Int) ∧ a % 10 ≤ 9 := by
  unfold comp
  refine ⟨?_, by omega, ?_, by omega, by omega⟩
  · rw [Int.tmod_eq_emod_of_nonneg (by omega)]; omega
  · rw [Int.tmod_eq_emod_of_nonneg (by omega)]; omega

set_option maxHeartbeats 16000000 in
set_option maxRecDepth 100000 in
theorem refIsbn_13 (l : List UInt8) (hz : l.length ≤ 1000000) (t : List UInt8) (ht : removed l = t) (h13 : t.length = 13) (r : List UInt8) (er : Int) (hx : isbnT t = (r, er)) (w : World) :
    Calls Tryz.prog 67 #[.string (S l)] w fun e w' => e = .returned (.tuple #[.string (S r), .int .i64 er]) ∧ Below w.heap.size w w' := by
  have c0 := Lib.hid (fun W => refRemoved_any l hz W)
  rw [ht] at c0
  have hu : (S t).size = 13 := by rw [S_size, h13]
  unfold isbnT at hx
  cases hd : t.all dgB5
  · have c1 := Lib.hid (fun W => refDigs_any t (by omega) false hd W)
    rw [if_neg (fun h => by rw [hd] at h; cases h.2.1), if_neg (fun h => by omega)] at hx
    simp only [Prod.mk.injEq] at hx
    obtain ⟨rfl, rfl⟩ := hx
    rw [show S [] = (⟨#[]⟩ : ByteArray) from rfl]
    clear hd ht
    generalize S t = u at *
    generalize S l = s at *
    go_enter Tryz.func67, Tryz.ntmps67
    go_wp2_with fail
    refine (c0.out _).mono ?_
    rintro e w1 ⟨rfl, b1⟩
    go_wp2_with fail
    refine (c1.out _).mono ?_
    rintro e w2 ⟨rfl, rfl⟩
    go_wp2
    go_ret2
    exact ⟨rfl, b1⟩
  · have c1 := Lib.hid (fun W => refDigs_any t (by omega) true hd W)
    have c2 := Lib.hid (fun W => refalternating_any t (by omega) hd W)
    have hal := altS_le t (by omega)
    have f1 : (S t).extract 0 3 = S (t.take 3) := by rw [S_extract]; rfl
    have p8 : ((S (t.take 3)).toList == (⟨#[57, 55, 56]⟩ : ByteArray).toList) = decide (t.take 3 = [57, 55, 56]) := S_eq5 (t.take 3) [57, 55, 56]
    have p9 : ((S (t.take 3)).toList == (⟨#[57, 55, 57]⟩ : ByteArray).toList) = decide (t.take 3 = [57, 55, 57]) := S_eq5 (t.take 3) [57, 55, 57]
    have l8 : (⟨#[57, 55, 56]⟩ : ByteArray).toList = [57, 55, 56] := by rw [ByteArray.toList_eq]
    have l9 : (⟨#[57, 55, 57]⟩ : ByteArray).toList = [57, 55, 57] := by rw [ByteArray.toList_eq]
    rw [l8] at p8
    rw [l9] at p9
    obtain ⟨a, ha⟩ : ∃ a, altS t = a := ⟨_, rfl⟩
    rw [ha] at hx c2 hal
    obtain ⟨m1, m2, _, _, m5⟩ := comp_form a hal
    by_cases h8 : t.take 3 = [57, 55, 56] ∨ t.take 3 = [57, 55, 57]
    · rw [if_pos ⟨h13, hd, h8⟩] at hx
      have hpp : ((S (t.take 3)).toList == [57, 55, 56]) = true ∨ ((S (t.take 3)).toList == [57, 55, 56]) = false ∧ ((S (t.take 3)).toList == [57, 55, 57]) = true := by
        rw [p8, p9]
        rcases h8 with h | h
        · exact .inl (decide_eq_true h)
        · exact .inr ⟨decide_eq_false (fun h2 => by rw [h] at h2; cases h2), decide_eq_true h⟩
      clear p8 p9
      by_cases h0 : a % 10 = 0
      · rw [if_pos h0] at hx
        simp only [Prod.mk.injEq] at hx
        obtain ⟨rfl, rfl⟩ := hx
        rw [h0] at m1 m2
        clear hd ha h8 h0
        generalize S (t.take 3) = ex at *
        generalize S t = u at *
        generalize S l = s at *
        rcases hpp with q1 | ⟨q1, q2⟩
        all_goals
          go_enter Tryz.func67, Tryz.ntmps67
          go_wp2_with fail
          refine (c0.out _).mono ?_
          rintro e w1 ⟨rfl, b1⟩
          go_wp2_with fail
          refine (c1.out _).mono ?_
          rintro e w2 ⟨rfl, rfl⟩
          go_wp2_with fail
          refine (c2.out _).mono ?_
          rintro e w2 ⟨rfl, rfl⟩
          go_wp2
          go_ret2
          exact ⟨rfl, b1⟩
      · rw [if_neg h0] at hx
        simp only [Prod.mk.injEq] at hx
        obtain ⟨rfl, rfl⟩ := hx
        have t5 : (((a % 10 : Nat) : Int) != 0) = true := by simp; omega
        rw [show S [] = (⟨#[]⟩ : ByteArray) from rfl]
        clear hd ha h8 h0
        generalize a % 10 = q at *
        generalize S (t.take 3) = ex at *
        generalize S t = u at *
        generalize S l = s at *
        rcases hpp with q1 | ⟨q1, q2⟩
        all_goals
          go_enter Tryz.func67, Tryz.ntmps67
          go_wp2_with fail
          refine (c0.out _).mono ?_
          rintro e w1 ⟨rfl, b1⟩
          go_wp2_with fail
          refine (c1.out _).mono ?_
          rintro e w2 ⟨rfl, rfl⟩
          go_wp2_with fail
          refine (c2.out _).mono ?_
          rintro e w2 ⟨rfl, rfl⟩
          go_wp2
          go_ret2
          exact ⟨rfl, b1⟩
    · have q1 : ((S (t.take 3)).toList == [57, 55, 56]) = false := by rw [p8]; exact decide_eq_false (fun h => h8 (.inl h))
      have q2 : ((S (t.take 3)).toList == [57, 55, 57]) = false := by rw [p9]; exact decide_eq_false (fun h => h8 (.inr h))
      rw [if_neg (fun h => h8 h.2.2), if_neg (fun h => by omega)] at hx
      simp only [Prod.mk.injEq] at hx
      obtain ⟨rfl, rfl⟩ := hx
      rw [show S [] = (⟨#[]⟩ : ByteArray) from rfl]
      clear hd ha h8 p8 p9
      generalize S (t.take 3) = ex at *
      generalize S t = u at *
      generalize S l = s at *
      go_enter Tryz.func67, Tryz.ntmps67
      go_wp2_with fail
      refine (c0.out _).mono ?_
      rintro e w1 ⟨rfl, b1⟩
      go_wp2_with fail
      refine (c1.out _).mono ?_
      rintro e w2 ⟨rfl, rfl⟩
      go_wp2
      go_ret2
      exact ⟨rfl, b1⟩

set_option maxHeartbeats 16000000 in
set_option maxRecDepth 100000 in
theorem refIsbn_not (l : List UInt8) (hz : l.length ≤ 1000000) (t : List UInt8) (ht : removed l = t) (h13 : t.length ≠ 13) (r : List UInt8) (er : Int) (hx : isbnT t = (r, er)) (w : World) :
    Calls Tryz.prog 67 #[.string (S l)] w fun e w' => e = .returned (.tuple #[.string (S r), .int .i64 er]) ∧ Below w.heap.size w w' := by
  have c0 := Lib.hid (fun W => refRemoved_any l hz W)
  rw [ht] at c0
  obtain ⟨n, hn⟩ : ∃ n, t.length = n := ⟨_, rfl⟩
  have hu : (S t).size = n := by rw [S_size, hn]
  have hnz : n ≤ 1000000 := by rw [← hn, ← ht]; exact Nat.le_trans (removed_length l) hz
  have t1 : ((n : Int) == 13) = false := by simp; omega
  unfold isbnT at hx
  rw [if_neg (fun h => h13 h.1)] at hx
  by_cases h10 : n = 10
  · have hu : (S t).size = 10 := by rw [S_size, hn, h10]
    have ht10 : t.length = 10 := by omega
    cases he : endedB t
    · have c1 := Lib.hid (fun W => refended_any t (by omega) false he W)
      rw [if_neg (fun h => by rw [he] at h; cases h.2)] at hx
      simp only [Prod.mk.injEq] at hx
      obtain ⟨rfl, rfl⟩ := hx
      rw [show S [] = (⟨#[]⟩ : ByteArray) from rfl]
      clear he ht
      generalize S t = u at *
      generalize S l = s at *
      go_enter Tryz.func67, Tryz.ntmps67
      go_wp2_with fail
      refine (c0.out _).mono ?_
      rintro e w1 ⟨rfl, b1⟩
      go_wp2_with fail
      refine (c1.out _).mono ?_
      rintro e w2 ⟨rfl, rfl⟩
      go_wp2
      go_ret2
      exact ⟨rfl, b1⟩
    · have c1 := Lib.hid (fun W => refended_any t (by omega) true he W)
      have c2 := Lib.hid (fun W => refweighted_any t (by omega) he W)
      rw [if_pos ⟨ht10, he⟩] at hx
      have hwl := wS_le t (by omega)
      obtain ⟨wq, hwq⟩ : ∃ wq, wS t = wq := ⟨_, rfl⟩
      rw [hwq] at hx c2 hwl
      have m1 : Int.tmod (wq : Int) 11 = ((wq % 11 : Nat) : Int) := by rw [Int.tmod_eq_emod_of_nonneg (by omega)]; omega
      have m2 : (wq : Int) % 11 = ((wq % 11 : Nat) : Int) := by omega
      by_cases h11 : wq % 11 = 0
      · rw [if_pos h11] at hx
        simp only [Prod.mk.injEq] at hx
        obtain ⟨rfl, rfl⟩ := hx
        rw [h11] at m1 m2
        obtain ⟨p, hp⟩ : ∃ p, ([57, 55, 56] ++ t.take 9 : List UInt8) = p := ⟨_, rfl⟩
        have f1 : (S t).extract 0 9 = S (t.take 9) := by rw [S_extract]; rfl
        have f2 : (⟨#[57, 55, 56]⟩ : ByteArray) ++ S (t.take 9) = S p := by rw [show (⟨#[57, 55, 56]⟩ : ByteArray) = S [57, 55, 56] from rfl, S_append, hp]
        have z1 : (S (t.take 9)).size = 9 := by rw [S_size, List.length_take]; omega
        have hp12 : p.length = 12 := by rw [← hp, List.length_append, List.length_take]; simp; omega
        have z2 : (S p).size = 12 := by rw [S_size, hp12]
        have hpd : p.all dgB5 = true := by
          rw [← hp, List.all_append, Bool.and_eq_true]
          refine ⟨by decide, ?_⟩
          obtain ⟨_, h2, _⟩ := ended_at t he
          rw [all_getD5]
          intro i hi
          rw [List.length_take] at hi
          rw [getD_take _ _ _ (by omega)]
          exact h2 i (by omega)
        have c3 := Lib.hid (fun W => refalternating_any p (by omega) hpd W)
        have hal := altS_le p (by omega)
        rw [hp]
        obtain ⟨a, ha⟩ : ∃ a, altS p = a := ⟨_, rfl⟩
        rw [ha] at c3 hal ⊢
        obtain ⟨n1, n2, n3, n4, n5⟩ := comp_form a hal
        have hc9 := comp_le a
        have c4 := Lib.hid (fun W => refdigit5_any (comp a) hc9 W)
        have f3 : S p ++ S [dgt (comp a)] = S (p ++ [dgt (comp a)]) := S_append _ _
        have z3 : (S [dgt (comp a)]).size = 1 := rfl
        have F3 := Lib.hid f3
        clear hwq he ht h11 hpd hp ha f3
        generalize comp a = cc at *
        generalize a % 10 = q at *
        generalize S (p ++ [dgt cc]) = res at *
        generalize S [dgt cc] = sd at *
        generalize S p = sp at *
        generalize S (t.take 9) = tk at *
        generalize S t = u at *
        generalize S l = s at *
        go_enter Tryz.func67, Tryz.ntmps67
        go_wp2_with fail
        refine (c0.out _).mono ?_
        rintro e w1 ⟨rfl, b1⟩
        go_wp2_with fail
        refine (c1.out _).mono ?_
        rintro e w2 ⟨rfl, rfl⟩
        go_wp2_with fail
        refine (c2.out _).mono ?_
        rintro e w2 ⟨rfl, rfl⟩
        go_wp2_with fail
        refine (c3.out _).mono ?_
        rintro e w2 ⟨rfl, rfl⟩
        go_wp2_with fail
        refine (c4.out _).mono ?_
        rintro e w3 ⟨rfl, c⟩
        have b3 := b1.trans (c.mono b1.size)
        clear c
        go_wp2
        go_ret2
        rw [← F3.out]
        exact ⟨rfl, b3⟩
      · rw [if_neg h11] at hx
        simp only [Prod.mk.injEq] at hx
        obtain ⟨rfl, rfl⟩ := hx
        rw [show S [] = (⟨#[]⟩ : ByteArray) from rfl]
        have t5 : (((wq % 11 : Nat) : Int) != 0) = true := by simp; omega
        clear hwq he ht h11
        generalize wq % 11 = q at *
        generalize S t = u at *
        generalize S l = s at *
        go_enter Tryz.func67, Tryz.ntmps67
        go_wp2_with fail
        refine (c0.out _).mono ?_
        rintro e w1 ⟨rfl, b1⟩
        go_wp2_with fail
        refine (c1.out _).mono ?_
        rintro e w2 ⟨rfl, rfl⟩
        go_wp2_with fail
        refine (c2.out _).mono ?_
        rintro e w2 ⟨rfl, rfl⟩
        go_wp2
        go_ret2
        exact ⟨rfl, b1⟩
  · have t2 : ((n : Int) != 10) = true := by simp; omega
    rw [if_neg (fun h => h10 (by omega))] at hx
    simp only [Prod.mk.injEq] at hx
    obtain ⟨rfl, rfl⟩ := hx
    rw [show S [] = (⟨#[]⟩ : ByteArray) from rfl]
    clear ht
    generalize S t = u at *
    generalize S l = s at *
    go_enter Tryz.func67, Tryz.ntmps67
    go_wp2_with fail
    refine (c0.out _).mono ?_
    rintro e w1 ⟨rfl, b1⟩
    go_wp2
    go_ret2
    exact ⟨rfl, b1⟩

theorem refIsbn_any (l : List UInt8) (hz : l.length ≤ 1000000) (r : List UInt8) (er : Int) (hx : isbnI l = (r, er)) (w : World) :
    Calls Tryz.prog 67 #[.string (S l)] w fun e w' => e = .returned (.tuple #[.string (S r), .int .i64 er]) ∧ Below w.heap.size w w' := by
  by_cases h : (removed l).length = 13
  · exact refIsbn_13 l hz _ rfl h r er hx w
  · exact refIsbn_not l hz _ rfl h r er hx w
end

section
open Go.RowKit Go.PlainAid
theorem wordX_OK (cs : List Nat) (h : OKs cs) : OKs (joinL (W cs)) := join_OK _ (W_OK cs h)
theorem S_wordX (cs : List Nat) (h : OKs cs) : S (wordX (enc cs)) = T (joinL (W cs)) := by rw [wordX_enc cs h]; rfl
theorem S_clip4 (cs : List Nat) (h : OKs cs) : S (clip4 (wordX (enc cs))) = T ((joinL (W cs)).take 4) := by
  unfold clip4
  rw [wordX_enc cs h, runes_enc _ (wordX_OK cs h)]
  rfl
set_option maxHeartbeats 8000000 in
theorem refNorm_any (n : Int) (v : List UInt8) (hv : validT v = true) (hl : v.length ≤ 10000) (w : World) :
    Calls Tryz.prog 40 #[.int .i64 n, .string (S v)] w fun e w' => e = .returned (.string (S (normV n v))) ∧ Below w.heap.size w w' := by
  obtain ⟨cs, hcs, rfl⟩ := validT_text v hv
  have hcl : cs.length ≤ 10000 := by
    have := len_le cs
    rw [T_size] at this
    omega
  have hwt := W_total cs
  unfold normV
  by_cases h0 : n = 0
  · subst h0
    have HR := Lib.hid (Below.refl w.heap.size w)
    rw [if_pos rfl]
    clear hwt
    generalize S (enc cs) = s at *
    go_enter Tryz.func40, Tryz.ntmps40
    go_wp2
    first | exact ⟨rfl, HR.out⟩ | (go_ret; exact ⟨rfl, HR.out⟩)
  rw [if_neg h0]
  have t0 : (n == 0) = false := by simpa using h0
  by_cases h1 : n = 1
  · subst h1
    have cW := Lib.hid (refWords_any cs hcs (S (enc cs)) rfl hcl w)
    have cJ := Lib.hid (fun (v : Value) (W1 : World) (hs : Strs w.heap.size v (W cs) W1) => join_any w.heap.size v (W cs) (by omega) W1 hs)
    rw [if_pos rfl, S_wordX cs hcs]
    clear hwt hv hl
    generalize S (enc cs) = s at *
    generalize T (joinL (W cs)) = r at *
    go_enter Tryz.func40, Tryz.ntmps40
    go_wp2_with fail
    refine cW.out.mono ?_
    rintro e w1 ⟨u, rfl, hs, hb⟩
    have cj := Lib.hid (cJ.out u w1 hs)
    have HB := Lib.hid hb
    clear hs hb cW cJ
    go_wp2_with fail
    refine cj.out.mono ?_
    rintro e w2 ⟨rfl, rfl⟩
    clear cj
    go_wp2
    first | exact ⟨rfl, HB.out⟩ | (go_ret; exact ⟨rfl, HB.out⟩)
  rw [if_neg h1]
  have t1 : (n == 1) = false := by simpa using h1
  by_cases h2 : n = 2
  · subst h2
    obtain ⟨r, er, hr⟩ : ∃ r er, isbnI (enc cs) = (r, er) := ⟨_, _, rfl⟩
    have cI := Lib.hid (refIsbn_any (enc cs) (by omega) r er hr w)
    rw [if_pos rfl, hr]
    clear hwt hv hl hr
    generalize S (enc cs) = s at *
    by_cases he : er = 0
    · subst he
      rw [if_pos rfl]
      dsimp only
      generalize S r = x at *
      go_enter Tryz.func40, Tryz.ntmps40
      go_wp2_with fail
      refine cI.out.mono ?_
      rintro e w1 ⟨rfl, hb⟩
      have HB := Lib.hid hb
      clear hb cI
      go_wp2
      first | exact ⟨rfl, HB.out⟩ | (go_ret; exact ⟨rfl, HB.out⟩)
    · rw [if_neg he]
      have te : (er != 0) = true := by simpa using he
      generalize S r = x at *
      clear he
      go_enter Tryz.func40, Tryz.ntmps40
      go_wp2_with fail
      refine cI.out.mono ?_
      rintro e w1 ⟨rfl, hb⟩
      have HB := Lib.hid hb
      clear hb cI
      go_wp2
      first | exact ⟨rfl, HB.out⟩ | (go_ret; exact ⟨rfl, HB.out⟩)
  rw [if_neg h2]
  have t2 : (n == 2) = false := by simpa using h2
  by_cases h3 : n = 3
  · subst h3
    have cW := Lib.hid (refWords_any cs hcs (S (enc cs)) rfl hcl w)
    have cJ := Lib.hid (fun (v : Value) (W1 : World) (hs : Strs w.heap.size v (W cs) W1) => join_any w.heap.size v (W cs) (by omega) W1 hs)
    have hjs : (T (joinL (W cs))).size ≤ 1000000 := by
      have h2 := join_total (W cs)
      have h3 := enc_le (joinL (W cs))
      rw [T_size]
      omega
    have cC := Lib.hid (fun (W1 : World) => refClip_any (joinL (W cs)) (wordX_OK cs hcs) (T (joinL (W cs))) _ rfl hjs 4 (by decide) (by decide) rfl W1)
    rw [if_pos rfl, S_clip4 cs hcs]
    clear hwt hv hl hjs
    rw [show (4 : Int).toNat = 4 from rfl] at cC
    generalize S (enc cs) = s at *
    generalize T ((joinL (W cs)).take 4) = q at *
    generalize T (joinL (W cs)) = r at *
    go_enter Tryz.func40, Tryz.ntmps40
    go_wp2_with fail
    refine cW.out.mono ?_
    rintro e w1 ⟨u, rfl, hs, hb⟩
    have cj := Lib.hid (cJ.out u w1 hs)
    have HB := Lib.hid hb
    clear hs hb cW cJ
    go_wp2_with fail
    refine cj.out.mono ?_
    rintro e w2 ⟨rfl, rfl⟩
    have cc := Lib.hid (cC.out w1)
    clear cj cC
    go_wp2_with fail
    refine cc.out.mono ?_
    rintro e w3 ⟨rfl, hb3⟩
    have HB3 := Lib.hid (HB.out.trans (hb3.mono HB.out.size))
    clear cc hb3 HB
    go_wp2
    first | exact ⟨rfl, HB3.out⟩ | (go_ret; exact ⟨rfl, HB3.out⟩)
  rw [if_neg h3]
  have t3 : (n == 3) = false := by simpa using h3
  have cD := Lib.hid (refDigits15_any (enc cs) (by omega) w)
  have HR := Lib.hid (Below.refl w.heap.size w)
  clear hwt hv hl
  generalize S (digits4 (enc cs)) = r at *
  generalize S (enc cs) = s at *
  go_enter Tryz.func40, Tryz.ntmps40
  go_wp2_with fail
  refine cD.out.mono ?_
  rintro e w1 ⟨rfl, hw1⟩
  rw [hw1]
  clear cD hw1
  go_wp2
  first | exact ⟨rfl, HR.out⟩ | (go_ret; exact ⟨rfl, HR.out⟩)
end

section
open Go.Lib
/-! Join. -/
/-- Can this, which is not empty, be a part? -/
def plainX (x : List UInt8) : Bool := validT x && decide (cleanX x = x) && decide ((splG dd x).length ≤ 1) && decide (x.getD 0 0 ≠ 45) && decide (x.getD (x.length - 1) 0 ≠ 45)
def partE (x : List UInt8) : Int := if x = [] then 8 else if plainX x = false then 3 else 0
/-- The first error. -/
def firstE12 : List (List UInt8) → Int
  | [] => 0
  | x :: t => if partE x ≠ 0 then partE x else firstE12 t
def joinX (L : List (List UInt8)) : List UInt8 × Int :=
  if L.length = 0 then ([], 8) else if 4 < L.length then ([], 4) else if firstE12 L ≠ 0 then ([], firstE12 L) else if 200 < (gluX dd L).length then ([], 4) else (gluX dd L, 0)
theorem firstE_all : ∀ (L : List (List UInt8)), firstE12 L = 0 → ∀ x ∈ L, partE x = 0
  | [], _, x, hx => by cases hx
  | y :: t, h, x, hx => by
    rw [firstE12] at h
    by_cases h0 : partE y ≠ 0
    · rw [if_pos h0] at h; exact absurd h h0
    · rw [if_neg h0] at h
      rcases List.mem_cons.1 hx with rfl | hx
      · exact Decidable.not_not.1 h0
      · exact firstE_all t h x hx
theorem partE_ok (x : List UInt8) (h : partE x = 0) : x ≠ [] ∧ plainX x = true := by
  unfold partE at h
  by_cases h0 : x = []
  · rw [if_pos h0] at h; cases h
  rw [if_neg h0] at h
  cases e : plainX x with
  | true => exact ⟨h0, rfl⟩
  | false => rw [e] at h; cases h
theorem spl_one (sep x : List UInt8) (h : (splG sep x).length ≤ 1) : splG sep x = [x] := by
  have hg := glu_spl sep x.length x (Nat.le_refl _)
  have hn := spl_ne sep x.length x (Nat.le_refl _)
  match e : splG sep x with
  | [] => exact absurd e hn
  | [y] => rw [e] at hg; rw [show y = x from hg]
  | y :: z :: r => rw [e] at h; simp at h
theorem last_getD (x : List UInt8) (h : x ≠ []) : x.getLast h = x.getD (x.length - 1) 0 := by
  have hp := List.length_pos_iff.2 h
  rw [List.getLast_eq_getElem, List.getD_eq_getElem?_getD, List.getElem?_eq_getElem (by omega)]
  rfl
theorem plain_facts (x : List UInt8) (h : plainX x = true) : validT x = true ∧ cleanX x = x ∧ splG dd x = [x] ∧ ∀ hx : x ≠ [], x.getLast hx ≠ 45 := by
  unfold plainX at h
  simp only [Bool.and_eq_true, decide_eq_true_eq] at h
  exact ⟨h.1.1.1.1, h.1.1.1.2, spl_one dd x h.1.1.2, fun hx => by rw [last_getD x hx]; exact h.2⟩
theorem join_ok (L : List (List UInt8)) (s : List UInt8) (h : joinX L = (s, 0)) : L ≠ [] ∧ (∀ x ∈ L, x ≠ [] ∧ plainX x = true) ∧ s = gluX dd L ∧ s.length ≤ 200 := by
  unfold joinX at h
  by_cases h1 : L.length = 0
  · rw [if_pos h1] at h; simp at h
  rw [if_neg h1] at h
  by_cases h2 : 4 < L.length
  · rw [if_pos h2] at h; simp at h
  rw [if_neg h2] at h
  by_cases h3 : firstE12 L ≠ 0
  · rw [if_pos h3] at h; exact absurd (Prod.mk.inj h).2 h3
  rw [if_neg h3] at h
  by_cases h4 : 200 < (gluX dd L).length
  · rw [if_pos h4] at h; simp at h
  rw [if_neg h4] at h
  obtain ⟨rfl, _⟩ := Prod.mk.inj h
  exact ⟨fun e => h1 (by rw [e]; rfl), fun x hx => partE_ok x (firstE_all L (Decidable.not_not.1 h3) x hx), rfl, by omega⟩
theorem join_no (L : List (List UInt8)) (s : List UInt8) (e : Int) (h : joinX L = (s, e)) (he : e ≠ 0) : s = [] := by
  unfold joinX at h
  by_cases h1 : L.length = 0
  · rw [if_pos h1] at h; exact (Prod.mk.inj h).1.symm
  rw [if_neg h1] at h
  by_cases h2 : 4 < L.length
  · rw [if_pos h2] at h; exact (Prod.mk.inj h).1.symm
  rw [if_neg h2] at h
  by_cases h3 : firstE12 L ≠ 0
  · rw [if_pos h3] at h; exact (Prod.mk.inj h).1.symm
  rw [if_neg h3] at h
  by_cases h4 : 200 < (gluX dd L).length
  · rw [if_pos h4] at h; exact (Prod.mk.inj h).1.symm
  rw [if_neg h4] at h
  exact absurd (Prod.mk.inj h).2.symm he
theorem spl_join (L : List (List UInt8)) (h0 : L ≠ []) (h : ∀ x ∈ L, x ≠ [] ∧ plainX x = true) : splG dd (gluX dd L) = L :=
  spl_glu 45 45 L h0 (fun x hx => by
    obtain ⟨_, _, h3, h4⟩ := plain_facts x (h x hx).2
    exact ⟨h3, h4⟩)
theorem parts_join (L : List (List UInt8)) (s : List UInt8) (h : joinX L = (s, 0)) : partsX s = L := by
  obtain ⟨h0, h1, rfl, _⟩ := join_ok L s h
  unfold partsX
  rw [spl_join L h0 h1]
  have hc : L.map cleanX = L := by
    conv => rhs; rw [← List.map_id L]
    exact List.map_congr_left (fun x hx => (plain_facts x (h1 x hx).2).2.1)
  rw [hc]
  exact nonE_all _ (fun x hx => (h1 x hx).1)
/-- Valid pieces joined are valid. -/
theorem glu_valid (sep : List UInt8) (hs : validT sep = true) : ∀ (L : List (List UInt8)), (∀ x ∈ L, validT x = true) → validT (gluX sep L) = true
  | [], _ => (by decide : validT [] = true)
  | [x], h => h x (by simp)
  | x :: y :: r, h => by
    have ih := glu_valid sep hs (y :: r) (fun z hz => h z (by simp [hz]))
    obtain ⟨a, ha, h1⟩ := validT_text _ (h x (by simp))
    obtain ⟨b, hb, h2⟩ := validT_text _ hs
    obtain ⟨c, hc, h3⟩ := validT_text _ ih
    show validT (x ++ sep ++ gluX sep (y :: r)) = true
    rw [h3, h1, h2, ← enc_append, ← enc_append]
    exact validT_enc _ (OKs_append.2 ⟨OKs_append.2 ⟨ha, hb⟩, hc⟩)
theorem dd_valid : validT dd = true := by decide +kernel
theorem join_valid (L : List (List UInt8)) (s : List UInt8) (h : joinX L = (s, 0)) : validT s = true := by
  obtain ⟨_, h1, rfl, _⟩ := join_ok L s h
  exact glu_valid dd dd_valid L (fun x hx => (plain_facts x (h1 x hx).2).1)

/-! Above. -/
def aboveL (P : List (List UInt8)) : List (List UInt8) := (List.range (P.length - 1)).map fun i => gluX dd (P.take (P.length - 1 - i))
def aboveX (l : List UInt8) : List (List UInt8) := aboveL (partsX l)
theorem above_len (l : List UInt8) : (aboveX l).length = (partsX l).length - 1 := by
  unfold aboveX aboveL
  rw [List.length_map, List.length_range]

/-! Names. -/
abbrev Nm := List UInt8 × List UInt8 × List UInt8
def nm0 : Nm := ([], [], [])
def digc (c : UInt8) : Bool := decide (48 ≤ c.toNat) && decide (c.toNat ≤ 57)
def datesX (l : List UInt8) : Bool := decide (l.length = 5 ∨ l.length = 9) && (List.range l.length).all fun i => if i = 4 then decide (l.getD i 0 = 45) else digc (l.getD i 0)
def pieceX (x : List UInt8) : Bool := decide (x ≠ []) && decide (cleanX x = x) && decide ((splG [44] x).length ≤ 1)
def nameL (L : List (List UInt8)) : Option Nm := match L with
  | [a] => some (a, [], [])
  | [a, b] => if datesX b = true then some (a, [], b) else some (a, b, [])
  | [a, b, c] => if datesX c = true then some (a, b, c) else none
  | _ => none
def nameO (s : List UInt8) : Option Nm := if validT s = false then none else if (splG cb s).all pieceX = false then none else nameL (splG cb s)
def nameX (s : List UInt8) : Nm × Int := match nameO s with
  | some n => (n, 0)
  | none => (nm0, 3)
def textN (n : Nm) : List UInt8 := (n.1 ++ if n.2.1 = [] then [] else cb ++ n.2.1) ++ if n.2.2 = [] then [] else cb ++ n.2.2
def textX12 (n : Nm) : List UInt8 × Int := if nameX (textN n) = (n, 0) then (textN n, 0) else ([], 3)
theorem piece_ne (x : List UInt8) (h : pieceX x = true) : x ≠ [] := by
  unfold pieceX at h
  simp only [Bool.and_eq_true, decide_eq_true_eq] at h
  exact h.1.1
theorem dates_ne (x : List UInt8) (h : datesX x = true) : x ≠ [] := by
  rintro rfl
  revert h
  decide
theorem name_text (s : List UInt8) (n : Nm) (h : nameO s = some n) : textN n = s := by
  unfold nameO at h
  split at h
  · cases h
  split at h
  · cases h
  rename_i h1 h2
  have hall : (splG cb s).all pieceX = true := by simpa using h2
  rw [List.all_eq_true] at hall
  have hg := glu_spl cb s.length s (Nat.le_refl _)
  revert h hall hg
  generalize splG cb s = L
  intro h hall hg
  unfold nameL at h
  split at h
  · rename_i a
    have hg : a = s := hg
    obtain rfl := Option.some.inj h
    unfold textN
    simpa using hg
  · rename_i a b
    have hb := piece_ne b (hall b (by simp))
    have hg : a ++ cb ++ b = s := hg
    split at h
    · obtain rfl := Option.some.inj h
      unfold textN
      simp only [if_true, if_neg hb, List.append_nil, ← hg, List.append_assoc]
    · obtain rfl := Option.some.inj h
      unfold textN
      simp only [if_true, if_neg hb, List.append_nil, ← hg, List.append_assoc]
  · rename_i a b c
    have hb := piece_ne b (hall b (by simp))
    have hc := piece_ne c (hall c (by simp))
    have hg : a ++ cb ++ (b ++ cb ++ c) = s := hg
    split at h
    · obtain rfl := Option.some.inj h
      unfold textN
      simp only [if_neg hb, if_neg hc, ← hg, List.append_assoc]
    · cases h
  · cases h
theorem name_some (s : List UInt8) (n : Nm) (h : nameX s = (n, 0)) : nameO s = some n := by
  unfold nameX at h
  cases e : nameO s with
  | none => rw [e] at h; simp at h
  | some m => rw [e] at h; rw [(Prod.mk.inj h).1]
theorem name_back (s : List UInt8) (n : Nm) (h : nameX s = (n, 0)) : textX12 n = (s, 0) := by
  have ht := name_text s n (name_some s n h)
  unfold textX12
  rw [ht, if_pos h]
theorem name_no (s : List UInt8) (n : Nm) (e : Int) (h : nameX s = (n, e)) (he : e ≠ 0) : n = nm0 := by
  unfold nameX at h
  cases e2 : nameO s with
  | none => rw [e2] at h; exact (Prod.mk.inj h).1.symm
  | some m => rw [e2] at h; exact absurd (Prod.mk.inj h).2.symm he
end

section
open Go.RowKit
theorem append_block {P : Program} (w : World) (base : Nat) (t ty e : TypeId) (i : TypeInfo) (z : Value) (size bytes : Nat) (ht : P.underlying t = some (.slice e)) (hi : P.info? e = some i) (hz : i.zero = some z)
    (hsize : i.size = size) (hby : i.bytes = bytes) (v : Value) (n : Nat) (xs : List Value) (hown : w.ownsRow base e size v n xs)
    (a : Addr) (m c : Nat) (news : List Value) (hl : news.length = m * size) (hnews : ∀ j u, news[j]? = some u → w.cell? (a.add j) = some u) (h1 : ∀ u ∈ news, u.oneCell' = true) (hm : 0 < m)
    (h63 : n + m ≤ maxLen) (hbytes : (n + m) * bytes ≤ 140737488355328) (v' : Value) (w' : World) (hr : (Builtin.append_ #[t, t] ty #[v, .slice (some a) m c]).run P w = .ok v' w') :
    v'.ownBlock = v.ownBlock ∨ v'.ownBlock = some w.heap.size := by
  subst hsize
  subst hby
  have hsmall : n + m ≤ 9223372036854775807 := by simp only [maxLen] at h63; omega
  rcases hown.2 with ⟨rfl, rfl⟩ | ⟨g, cap, cur, rfl, hbg, hg, hnc, hcm, hcs, htake⟩
  · have h2 := run_append_nil (P := P) w t ty e i z ht hi hz a m c news hl hnews hm (by omega) (by have hb := hbytes; simp only [Nat.zero_add] at hb; omega)
    rw [hr] at h2
    injection h2 with h3 h4
    rw [h3]
    exact .inr rfl
  · by_cases hroom : n + m ≤ cap
    · have hfit : n * i.size + news.length ≤ cur.size := by rw [hl, hcs, ← Nat.add_mul]; exact Nat.mul_le_mul_right _ hroom
      have h2 := run_append_room (P := P) w t ty e i ht hi g n cap cur hg a m c news hl hnews h1 hroom hfit
      rw [hr] at h2
      injection h2 with h3 h4
      rw [h3]
      exact .inl rfl
    · have h2 := run_append_grow (P := P) w t ty e i z ht hi hz ⟨g, 0, none⟩ n cap xs hown.1 (hown.cells (g := g) rfl) a m c news hl hnews (by omega) (by omega) (growslice_fits (by omega) hbytes)
      rw [hr] at h2
      injection h2 with h3 h4
      rw [h3]
      exact .inr rfl

theorem wpList_append_two {P : Program} (w : World) {ops : Array Oper} {rest : List Oper} {o : Oper} {a : Act} {Q : Exit → Act → World → Prop} (hgd : o.guard = none) (s x : Operand) (t : TypeId)
    (ho : o.op = .call { callee := .builtin .append, args := #[s, x], argTypes := #[t, t] })
    (base : Nat) (e : TypeId) (i : TypeInfo) (z : Value) (size bytes : Nat) (ht : P.underlying t = some (.slice e)) (hi : P.info? e = some i) (hz : i.zero = some z)
    (hsize : i.size = size) (hby : i.bytes = bytes) (hzs : z.cells.size = size) (hsz : 0 < size)
    (v : Value) (n : Nat) (xs : List Value) (hs : a.eval s = v) (hown : w.ownsRow base e size v n xs)
    (ad : Addr) (m c : Nat) (news : List Value) (hx : a.eval x = .slice (some ad) m c) (hl : news.length = m * size) (hnews : ∀ j u, news[j]? = some u → w.cell? (ad.add j) = some u) (h1 : ∀ u ∈ news, u.oneCell' = true) (hm : 0 < m)
    (h63 : n + m ≤ maxLen) (hbytes : (n + m) * bytes ≤ 140737488355328) (hbase : base ≤ w.heap.size)
    (h : ∀ v' w', w'.ownsRow base e size v' (n + m) (xs ++ news) → w.grownBy w' v.ownBlock → v' ≠ .slice none 0 0 → (v'.ownBlock = v.ownBlock ∨ v'.ownBlock = some w.heap.size) → wpList P ops Q rest (a.put o.dst v') w') : wpList P ops Q (o :: rest) a w :=
  wpList_plain hgd fun K hK => by
    obtain ⟨v', w', hr, h2, h3, h4⟩ := run_append_own (P := P) w base t o.type e i z size bytes ht hi hz hsize hby hzs hsz v n xs hown ad m c news hl hnews h1 h63 hbytes hbase
    have h5 := append_block w base t o.type e i z size bytes ht hi hz hsize hby v n xs hown ad m c news hl hnews h1 hm h63 hbytes v' w' hr
    have h6 : K (a.put o.dst v') w' := hK _ _ (h v' w' h2 h3 (fun he => by have := (h4.1 he).2; omega) h5)
    unfold Oper.wp execOp
    simp only [ho, resolve, invoke, builtin, Sem.run_bind, Sem.run_pure, Result.andThen_ok, List.map_toArray, List.map_cons, List.map_nil, hs, hx, hr]
    exact h6

/-- Another row stays where it is, and apart. -/
theorem own_apart {w w' : World} {base2 e2 size2 n2 : Nat} {v v' u : Value} {ys : List Value} (hu : w.ownsRow base2 e2 size2 u n2 ys) (hg : w.grownBy w' v.ownBlock)
    (hne : u.ownBlock = none ∨ u.ownBlock ≠ v.ownBlock) (hb : v'.ownBlock = v.ownBlock ∨ v'.ownBlock = some w.heap.size) :
    w'.ownsRow base2 e2 size2 u n2 ys ∧ (u.ownBlock = none ∨ u.ownBlock ≠ v'.ownBlock) := by
  refine ⟨hu.kept hg hne, ?_⟩
  rcases hne with h | h
  · exact .inl h
  · rcases hb with h2 | h2
    · exact .inr (by rw [h2]; exact h)
    · refine .inr fun h3 => ?_
      have := (hu.lt _ (h3.trans h2)).2
      omega
end

end Go.Proofs.YtfjfpefpdlecbaaGreatDoor
