/- Merged: R07C, R07D, R07E. -/
import Derived.Test.YtceneblmllpdnaaDoorQ02
import Derived.RegionTactic
import Derived.BigRegion
namespace Go.Proofs.YtceneblmllpdnaaDoor

section
open Go.RowKit Go.PlainAid
set_option maxHeartbeats 8000000 in
theorem refTag_any (l : List UInt8) (b : Bool) (hb : tagB l = b) (w : World) :
    Calls Tryd.prog 56 #[.string (S l)] w fun e w' => e = .returned (.bool b) ∧ w' = w := by
  have hbt := get_bt (S l)
  obtain ⟨n, hn⟩ : ∃ n, l.length = n := ⟨_, rfl⟩
  have hsz : (S l).size = n := by rw [S_size, hn]
  unfold tagB at hb
  by_cases h3 : n = 3
  · rw [hn, decide_eq_true h3, Bool.true_and] at hb
    have hs3 : (S l).size = 3 := by rw [hsz, h3]
    have q0 := bt_S l 0
    have q1 := bt_S l 1
    have q2 := bt_S l 2
    cases h0 : digB (l.getD 0 0)
    · have c0 := Lib.hid (fun W => refdigit_any (l.getD 0 0) false h0 W)
      rw [h0, Bool.false_and, Bool.false_and, Bool.false_and] at hb
      subst hb
      rw [← q0] at c0
      clear q0 q1 q2 h0 hn h3 hsz
      generalize S l = s at *
      go_enter Tryd.func56, Tryd.ntmps56
      go_wp2_with fail
      refine (c0.out _).mono ?_
      rintro e w1 ⟨rfl, rfl⟩
      go_wp2
      go_ret
      exact ⟨rfl, rfl⟩
    have c0 := Lib.hid (fun W => refdigit_any (l.getD 0 0) true h0 W)
    rw [h0, Bool.true_and] at hb
    rw [← q0] at c0
    cases h1 : digB (l.getD 1 0)
    · have c1 := Lib.hid (fun W => refdigit_any (l.getD 1 0) false h1 W)
      rw [h1, Bool.false_and, Bool.false_and] at hb
      subst hb
      rw [← q1] at c1
      clear q0 q1 q2 h0 h1 hn h3 hsz
      generalize S l = s at *
      go_enter Tryd.func56, Tryd.ntmps56
      go_wp2_with fail
      refine (c0.out _).mono ?_
      rintro e w1 ⟨rfl, rfl⟩
      go_wp2_with fail
      refine (c1.out _).mono ?_
      rintro e w1 ⟨rfl, rfl⟩
      go_wp2
      go_ret
      exact ⟨rfl, rfl⟩
    have c1 := Lib.hid (fun W => refdigit_any (l.getD 1 0) true h1 W)
    rw [h1, Bool.true_and] at hb
    rw [← q1] at c1
    cases h2 : digB (l.getD 2 0)
    · have c2 := Lib.hid (fun W => refdigit_any (l.getD 2 0) false h2 W)
      rw [h2, Bool.false_and] at hb
      subst hb
      rw [← q2] at c2
      clear q0 q1 q2 h0 h1 h2 hn h3 hsz
      generalize S l = s at *
      go_enter Tryd.func56, Tryd.ntmps56
      go_wp2_with fail
      refine (c0.out _).mono ?_
      rintro e w1 ⟨rfl, rfl⟩
      go_wp2_with fail
      refine (c1.out _).mono ?_
      rintro e w1 ⟨rfl, rfl⟩
      go_wp2_with fail
      refine (c2.out _).mono ?_
      rintro e w1 ⟨rfl, rfl⟩
      go_wp2
      go_ret
      exact ⟨rfl, rfl⟩
    have c2 := Lib.hid (fun W => refdigit_any (l.getD 2 0) true h2 W)
    rw [h2, Bool.true_and] at hb
    rw [← q2] at c2
    have hl := less_three l (by omega) (((digB_iff _).1 h0).1) (((digB_iff _).1 h1).1) (((digB_iff _).1 h2).1)
    have hle : Op.bytesLess (S l).toList [48, 49, 48] = !b := by
      rw [ByteArray.toList_eq]
      show Op.bytesLess l [48, 49, 48] = !b
      rw [hl, ← hb, Bool.not_not]
    clear q0 q1 q2 h0 h1 h2 hn h3 hsz hl hb
    generalize S l = s at *
    go_enter Tryd.func56, Tryd.ntmps56
    go_wp2_with fail
    refine (c0.out _).mono ?_
    rintro e w1 ⟨rfl, rfl⟩
    go_wp2_with fail
    refine (c1.out _).mono ?_
    rintro e w1 ⟨rfl, rfl⟩
    go_wp2_with fail
    refine (c2.out _).mono ?_
    rintro e w1 ⟨rfl, rfl⟩
    have hge : (binOp BinOp.geq 9 (.string s) (.string ⟨#[48, 49, 48]⟩)).run Tryd.prog w1 = .ok (.bool b) w1 := by
      have e : (⟨#[48, 49, 48]⟩ : ByteArray).toList = [48, 49, 48] := by rw [ByteArray.toList_eq]
      simp [binOp, Op.stringOp, e, hle]
    go_wp2
    go_ret
    exact ⟨rfl, rfl⟩
  · rw [hn, decide_eq_false h3] at hb
    simp only [Bool.false_and] at hb
    subst hb
    have t1 : ((n : Int) == 3) = false := by simp; omega
    clear hn h3
    generalize S l = s at *
    go_enter Tryd.func56, Tryd.ntmps56
    go_wp2
    go_ret
    exact ⟨rfl, rfl⟩
end

section
open Go.RowKit Go.PlainAid
/-- A row of texts of the call's own, nil while it is empty. -/
theorem BL.of_row {B : Nat} {v : Value} {L : List (List UInt8)} {w : World} (h : w.ownsRow B 9 1 v L.length (L.map strB)) : BL v L w := by
  by_cases hn : v = .slice none 0 0
  · subst hn
    rcases h.2 with ⟨_, h0⟩ | ⟨g, cap, cur, e, _⟩
    · have : L = [] := List.eq_nil_of_length_eq_zero h0
      subst this
      exact ⟨none, 0, rfl, Nat.le_refl _, Nat.zero_le _, fun _ => rfl, fun i hi => by cases hi⟩
    · cases e
  · exact SR.bl ⟨h, hn⟩
end

section
open Go.RowKit Go.PlainAid
theorem S_eq (a b : List UInt8) : ((S a).toList == (S b).toList) = decide (a = b) := by
  rw [ByteArray.toList_eq, ByteArray.toList_eq]
  show (a == b) = _
  by_cases h : a = b
  · simp [h]
  · simp [h]
def sameB (f g : Fld) : Bool := decide (f.tag = g.tag) && decide (f.ind = g.ind) && decide (f.auth = g.auth) && decide (f.subs = g.subs)
theorem subs_ext (A B : List Sub) (hl : A.length = B.length) (h : ∀ i, i < A.length → A.getD i sub0 = B.getD i sub0) : A = B := by
  refine List.ext_getElem hl fun i h1 h2 => ?_
  have := h i h1
  rwa [List.getD_eq_getElem?_getD, List.getD_eq_getElem?_getD, List.getElem?_eq_getElem h1, List.getElem?_eq_getElem h2] at this

set_option maxHeartbeats 16000000 in
theorem refSame_any (f g : Fld) (u v : Value) (w : World) (hu : QL u f.subs w) (hv : QL v g.subs w) (b : Bool) (hb : sameB f g = b) :
    Calls Tryd.prog 22 #[FV f u, FV g v] w fun e w' => e = .returned (.bool b) ∧ Below w.heap.size w w' := by
  obtain ⟨a, cap, rfl, hcap, hmax, _, hcell⟩ := hu
  obtain ⟨a', cap', rfl, hcap', hmax', _, hcell'⟩ := hv
  unfold maxLen at hmax hmax'
  unfold FV
  unfold sameB at hb
  obtain ⟨n, hn⟩ : ∃ n, f.subs.length = n := ⟨_, rfl⟩
  obtain ⟨m, hm⟩ : ∃ m, g.subs.length = m := ⟨_, rfl⟩
  have HCell := Lib.hid hcell
  have HCell' := Lib.hid hcell'
  rw [hn] at hcap ⊢
  rw [hm] at hcap' ⊢
  have HN := Lib.hid hn
  have HM := Lib.hid hm
  have HX := Lib.hid (subs_ext f.subs g.subs)
  have HB := Lib.hid hb
  have q1 := S_eq f.tag g.tag
  have q2 := S_eq f.ind g.ind
  obtain ⟨W0, hW0⟩ : ∃ W0, (w.alloc (.cells #[.string (S f.tag), .string (S f.ind), .slice a n cap, .int .i64 f.auth] 45)).alloc (.cells #[.string (S g.tag), .string (S g.ind), .slice a' m cap', .int .i64 g.auth] 45) = W0 := ⟨_, rfl⟩
  have b1 := (Below.refl w.heap.size w).alloc (Nat.le_refl _) (.cells #[.string (S f.tag), .string (S f.ind), .slice a n cap, .int .i64 f.auth] 45)
  have b0 : Below w.heap.size w W0 := by rw [← hW0]; exact b1.alloc (by simp) _
  have hlt : w.heap.size + 1 < W0.heap.size := by rw [← hW0]; simp
  have k0 : W0.cell? ⟨w.heap.size, 0, none⟩ = some (.string (S f.tag)) := by rw [← hW0]; simp
  have k1 : W0.cell? ⟨w.heap.size, 1, none⟩ = some (.string (S f.ind)) := by rw [← hW0]; simp
  have k2 : W0.cell? ⟨w.heap.size, 2, none⟩ = some (.slice a n cap) := by rw [← hW0]; simp
  have k3 : W0.cell? ⟨w.heap.size, 3, none⟩ = some (.int .i64 f.auth) := by rw [← hW0]; simp
  have l0 : W0.cell? ⟨w.heap.size + 1, 0, none⟩ = some (.string (S g.tag)) := by rw [← hW0]; simp
  have l1 : W0.cell? ⟨w.heap.size + 1, 1, none⟩ = some (.string (S g.ind)) := by rw [← hW0]; simp
  have l2 : W0.cell? ⟨w.heap.size + 1, 2, none⟩ = some (.slice a' m cap') := by rw [← hW0]; simp
  have l3 : W0.cell? ⟨w.heap.size + 1, 3, none⟩ = some (.int .i64 g.auth) := by rw [← hW0]; simp
  have HW0 := Lib.hid hW0
  clear hW0 b1 hcell hcell' hn hm hb
  by_cases h1 : f.tag ≠ g.tag
  · rw [decide_eq_false h1] at q1
    obtain rfl : b = false := by rw [← HB.out, decide_eq_false h1]; rfl
    clear h1
    go_enter Tryd.func22, Tryd.ntmps22
    go_wp2
    go_ret
    rw [HW0.out]
    exact ⟨rfl, b0⟩
  have h1 : f.tag = g.tag := Decidable.not_not.1 h1
  rw [decide_eq_true h1] at q1
  by_cases h2 : f.ind ≠ g.ind
  · rw [decide_eq_false h2] at q2
    obtain rfl : b = false := by rw [← HB.out, decide_eq_false h2, Bool.and_false]; rfl
    clear h1 h2
    go_enter Tryd.func22, Tryd.ntmps22
    go_wp2
    go_ret
    rw [HW0.out]
    exact ⟨rfl, b0⟩
  have h2 : f.ind = g.ind := Decidable.not_not.1 h2
  rw [decide_eq_true h2] at q2
  by_cases h3 : f.auth ≠ g.auth
  · have q3 : (f.auth != g.auth) = true := by simpa using h3
    obtain rfl : b = false := by rw [← HB.out, decide_eq_false h3, Bool.and_false]; rfl
    clear h1 h2 h3
    go_enter Tryd.func22, Tryd.ntmps22
    go_wp2
    go_ret
    rw [HW0.out]
    exact ⟨rfl, b0⟩
  have h3 : f.auth = g.auth := Decidable.not_not.1 h3
  have q3 : (f.auth != g.auth) = false := by simpa using h3
  by_cases h4 : n ≠ m
  · have q4 : ((n : Int) != (m : Int)) = true := by simp; omega
    obtain rfl : b = false := by rw [← HB.out, decide_eq_false (p := f.subs = g.subs) (fun h => h4 (by rw [← HN.out, ← HM.out, h])), Bool.and_false]
    clear h1 h2 h3 h4
    go_enter Tryd.func22, Tryd.ntmps22
    go_wp2
    go_ret
    rw [HW0.out]
    exact ⟨rfl, b0⟩
  obtain rfl : n = m := Decidable.not_not.1 h4
  have HBB : RowKit.Hid (decide (f.subs = g.subs) = b) := by
    unfold RowKit.Hid
    rw [← HB.out, decide_eq_true h1, decide_eq_true h2, decide_eq_true h3]
    simp
  clear h1 h2 h3 h4 HB
  have q4 : ((n : Int) != (n : Int)) = false := by simp
  go_enter Tryd.func22, Tryd.ntmps22
  go_wp2
  rw [HW0.out]
  clear k0 k1 k3 l0 l1 l3 q1 q2 q3
  go_loopw [5] (fun i wr => ∃ k : Nat, k ≤ n ∧ i = .int .i64 (k : Int) ∧ RowKit.Hid (∀ j, j < k → f.subs.getD j sub0 = g.subs.getD j sub0) ∧ Below W0.heap.size W0 wr) (fun i _ => n - (intOf i).toNat)
  case atStart => exact ⟨0, Nat.zero_le _, rfl, (fun j hj => by omega), Below.refl _ _⟩
  case round =>
    obtain ⟨k, hk, rfl, HJ, hbw⟩ := hrel
    have j2 := (hbw.cell (p := ⟨w.heap.size, 2, none⟩) (show w.heap.size < W0.heap.size by omega)).trans k2
    have r2 := (hbw.cell (p := ⟨w.heap.size + 1, 2, none⟩) hlt).trans l2
    by_cases hkn : k < n
    · obtain ⟨ga, oa, rfl, hga, c1, c2⟩ := HCell.out k (by rw [HN.out]; exact hkn)
      obtain ⟨gb, ob, rfl, hgb, d1, d2⟩ := HCell'.out k (by rw [HM.out]; exact hkn)
      have c1 : wr.cell? ⟨ga, oa + k * 2, none⟩ = some (.int .u8 ((f.subs.getD k sub0).1.toNat : Int)) := ((hbw.cell (p := ⟨ga, oa + k * 2, none⟩) (show ga < W0.heap.size by omega)).trans (b0.cell (p := ⟨ga, oa + k * 2, none⟩) hga)).trans c1
      have c2 : wr.cell? ⟨ga, oa + k * 2 + 1, none⟩ = some (.string (S (f.subs.getD k sub0).2)) := ((hbw.cell (p := ⟨ga, oa + k * 2 + 1, none⟩) (show ga < W0.heap.size by omega)).trans (b0.cell (p := ⟨ga, oa + k * 2 + 1, none⟩) hga)).trans c2
      have d1 : wr.cell? ⟨gb, ob + k * 2, none⟩ = some (.int .u8 ((g.subs.getD k sub0).1.toNat : Int)) := ((hbw.cell (p := ⟨gb, ob + k * 2, none⟩) (show gb < W0.heap.size by omega)).trans (b0.cell (p := ⟨gb, ob + k * 2, none⟩) hgb)).trans d1
      have d2 : wr.cell? ⟨gb, ob + k * 2 + 1, none⟩ = some (.string (S (g.subs.getD k sub0).2)) := ((hbw.cell (p := ⟨gb, ob + k * 2 + 1, none⟩) (show gb < W0.heap.size by omega)).trans (b0.cell (p := ⟨gb, ob + k * 2 + 1, none⟩) hgb)).trans d2
      have i1 : (0 : Int) ≤ (k : Int) := by omega
      have i2 : (k : Int) < (n : Int) := by omega
      have hq := S_eq (f.subs.getD k sub0).2 (g.subs.getD k sub0).2
      clear k2 l2
      by_cases he : f.subs.getD k sub0 = g.subs.getD k sub0
      · have HJ2 : RowKit.Hid (∀ j, j < k + 1 → f.subs.getD j sub0 = g.subs.getD j sub0) := by
          intro j hj
          rcases Nat.lt_or_ge j k with h | h
          · exact HJ.out j h
          · rw [show j = k by omega]; exact he
        rw [he] at c1 c2 hq
        rw [decide_eq_true rfl] at hq
        clear he HJ
        generalize S (g.subs.getD k sub0).2 = x at *
        generalize (((g.subs.getD k sub0).1.toNat : Nat) : Int) = y at *
        go_wp2
        go_region
        all_goals
          go_wp2
          go_roundw
          case rel => exact ⟨k + 1, by omega, by go_num, HJ2, hbw.drew⟩
          case measure => simp [intOf]; omega
      · obtain rfl : b = false := by rw [← HBB.out]; exact decide_eq_false (fun h => he (by rw [h]))
        have hor : ((((f.subs.getD k sub0).1.toNat : Nat) : Int) == (((g.subs.getD k sub0).1.toNat : Nat) : Int)) = false ∨ decide ((f.subs.getD k sub0).2 = (g.subs.getD k sub0).2) = false := by
          by_cases hc : (f.subs.getD k sub0).1 = (g.subs.getD k sub0).1
          · exact .inr (decide_eq_false (fun h => he (Prod.ext hc h)))
          · have : (f.subs.getD k sub0).1.toNat ≠ (g.subs.getD k sub0).1.toNat := fun h => hc (UInt8.toNat_inj.1 h)
            exact .inl (beq_eq_false_iff_ne.2 (fun h => this (by omega)))
        have Fin := Lib.hid (b0.trans (hbw.mono b0.size))
        have FinD := Lib.hid (b0.trans (hbw.drew.mono b0.size))
        clear he HJ
        generalize decide ((f.subs.getD k sub0).2 = (g.subs.getD k sub0).2) = eqv at *
        generalize S (f.subs.getD k sub0).2 = x at *
        generalize S (g.subs.getD k sub0).2 = x' at *
        generalize (((f.subs.getD k sub0).1.toNat : Nat) : Int) = y at *
        generalize (((g.subs.getD k sub0).1.toNat : Nat) : Int) = y' at *
        rcases hor with ho | ho
        · go_wp2
          go_region
          all_goals
            go_wp2
            go_ret
            exact ⟨rfl, FinD.out⟩
        · rw [ho] at hq
          go_wp2
          go_region
          all_goals
            go_wp2
            go_ret
            exact ⟨rfl, FinD.out⟩
    · obtain rfl : k = n := by omega
      obtain rfl : b = true := by rw [← HBB.out]; exact decide_eq_true (HX.out (by rw [HN.out, HM.out]) (fun j hj => HJ.out j (by rw [HN.out] at hj; exact hj)))
      have Fin := Lib.hid (b0.trans (hbw.mono b0.size))
      clear k2 l2
      go_wp2
      go_ret
      exact ⟨rfl, Fin.out⟩
end

end Go.Proofs.YtceneblmllpdnaaDoor
