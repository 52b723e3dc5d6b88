/- Merged: R07K, R07L, Plain10D. -/
import Derived.Test.YtiledacfdaenbaaGreatDoorQ09
import Derived.Deep.RegionHeld3
import Derived.Deep.CutBlock
import Derived.Deep.DeepCutAuto
import Derived.RegionTactic
import Derived.BigRegion
import Derived.Test.YtiledacfdaenbaaGreatDoorQ25
namespace Go.Proofs.YtiledacfdaenbaaGreatDoor

section
open Go.RowKit Go.PlainAid
/-- All that lay in w lies still. -/
def Sees (w w' : World) : Prop := Below w.heap.size w w'
theorem Sees.self (w : World) : Sees w w := Below.refl _ _
theorem Sees.after {w w1 w2 : World} (h : Sees w w1) (hb : Below w1.heap.size w1 w2) : Sees w w2 := Below.trans h (hb.mono h.size)
theorem Sees_drew (w w' : World) : Sees w w'.drew ↔ Sees w w' :=
  ⟨fun h => ⟨h.os, h.tape, h.output, h.size, h.block⟩, fun h => ⟨h.os, h.tape, h.output, h.size, h.block⟩⟩

/-- The mark of a byte, as a text. -/
def MF (y : Int) : ByteArray := S (markB (UInt8.ofNat y.toNat))
theorem MF_at (l : List UInt8) (i : Nat) : MF (bt (S l) i) = S (markB (l.getD i 0)) := by
  unfold MF
  rw [bt_S, Int.toNat_natCast, UInt8.ofNat_toNat]
theorem MF_size (y : Int) : (MF y).size = 1 := by
  unfold MF markB
  rw [S_size]
  split <;> simp

theorem bt_nat (s : ByteArray) (i : Nat) : bt s i = ((UInt8.ofNat (bt s i).toNat).toNat : Int) := by
  have h := bt_S s.data.toList i
  rw [S_of] at h
  rw [h, Int.toNat_natCast, UInt8.ofNat_toNat]
end

section
open Go.RowKit Go.PlainAid
theorem texts_ext (A B : List (List UInt8)) (hl : A.length = B.length) (h : ∀ i, i < A.length → A.getD i [] = B.getD i []) : A = B := by
  refine List.ext_getElem hl fun i h1 h2 => ?_
  have := h i h1
  rwa [List.getD_eq_getElem?_getD, List.getD_eq_getElem?_getD, List.getElem?_eq_getElem h1, List.getElem?_eq_getElem h2] at this

set_option maxHeartbeats 8000000 in
theorem refTexts_any (A B : List (List UInt8)) (va vb : Value) (w : World) (hA : BL va A w) (hB : BL vb B w) (b : Bool) (hb : decide (A = B) = b) :
    Calls Tryz.prog 7 #[va, vb] w fun e w' => e = .returned (.bool b) ∧ Below w.heap.size w w' := by
  obtain ⟨a, ca, rfl, hca, hma, _, hcA⟩ := hA
  obtain ⟨b', cb, rfl, hcb, hmb, _, hcB⟩ := hB
  unfold maxLen at hma hmb
  have HCA := Lib.hid hcA
  have HCB := Lib.hid hcB
  have HE := Lib.hid (fun h : A = B => congrArg List.length h)
  have HX := Lib.hid (texts_ext A B)
  have HBB := Lib.hid hb
  clear hb
  obtain ⟨n, hn⟩ : ∃ n, A.length = n := ⟨_, rfl⟩
  obtain ⟨m, hm⟩ : ∃ m, B.length = m := ⟨_, rfl⟩
  have HN := Lib.hid hn
  have HM := Lib.hid hm
  rw [hn] at hca ⊢
  rw [hm] at hcb ⊢
  clear hcA hcB hn hm
  by_cases hnm : n = m
  · subst hnm
    have t0 : ((n : Int) != (n : Int)) = false := by simp
    go_enter Tryz.func7, Tryz.ntmps7
    go_wp2
    go_loopw [5] (fun i wr => ∃ k : Nat, k ≤ n ∧ i = .int .i64 (k : Int) ∧ RowKit.Hid (∀ j, j < k → A.getD j [] = B.getD j []) ∧ Below w.heap.size w wr) (fun i _ => n - (intOf i).toNat)
    case atStart => exact ⟨0, Nat.zero_le _, rfl, (fun j hj => by omega), Below.refl _ _⟩
    case round =>
      obtain ⟨k, hk, rfl, HJ, hbw⟩ := hrel
      by_cases hkn : k < n
      · obtain ⟨ga, oa, rfl, hga, c1⟩ := HCA.out k (by rw [HN.out]; exact hkn)
        obtain ⟨gb, ob, rfl, hgb, c2⟩ := HCB.out k (by rw [HM.out]; exact hkn)
        have c1 : wr.cell? ⟨ga, oa + k, none⟩ = some (.string (S (A.getD k []))) := (hbw.cell (p := ⟨ga, oa + k, none⟩) hga).trans c1
        have c2 : wr.cell? ⟨gb, ob + k, none⟩ = some (.string (S (B.getD k []))) := (hbw.cell (p := ⟨gb, ob + k, none⟩) hgb).trans c2
        have i1 : (0 : Int) ≤ (k : Int) := by omega
        have i2 : (k : Int) < (n : Int) := by omega
        have hq := S_eq (A.getD k []) (B.getD k [])
        by_cases he : A.getD k [] = B.getD k []
        · rw [decide_eq_true he] at hq
          have HJ2 : RowKit.Hid (∀ j, j < k + 1 → A.getD j [] = B.getD j []) := by
            intro j hj
            rcases Nat.lt_or_ge j k with h | h
            · exact HJ.out j h
            · rw [show j = k by omega]; exact he
          clear he HJ
          generalize S (A.getD k []) = x at *
          generalize S (B.getD k []) = y at *
          go_wp2
          go_region
          all_goals
            go_wp2
            go_roundw
            case rel => exact ⟨k + 1, by omega, by go_num, HJ2, hbw.drew⟩
            case measure => simp [intOf]; omega
        · rw [decide_eq_false he] at hq
          obtain rfl : b = false := by rw [← HBB.out]; exact decide_eq_false (fun h => he (by rw [h]))
          clear he HJ
          generalize S (A.getD k []) = x at *
          generalize S (B.getD k []) = y at *
          go_wp2
          go_region
          all_goals
            go_wp2
            go_ret
            exact ⟨rfl, hbw.drew⟩
      · obtain rfl : k = n := by omega
        have hab : A = B := HX.out (by rw [HN.out, HM.out]) (fun j hj => HJ.out j (by rw [HN.out] at hj; exact hj))
        obtain rfl : b = true := by rw [← HBB.out]; exact decide_eq_true hab
        clear hab
        go_wp2
        go_ret
        exact ⟨rfl, hbw⟩
  · have t0 : ((n : Int) != (m : Int)) = true := by simp; omega
    obtain rfl : b = false := by rw [← HBB.out]; exact decide_eq_false (fun h => hnm (by have := HE.out h; rw [HN.out, HM.out] at this; exact this))
    go_enter Tryz.func7, Tryz.ntmps7
    go_wp2
    go_ret
    exact ⟨rfl, Below.refl _ _⟩

/-- A field of moderate size. -/
def smallB (f : Fld) : Bool := decide (f.subs.length ≤ 30) && decide (f.tag.length ≤ 300) && decide (f.ind.length ≤ 300) && (List.range f.subs.length).all fun i => decide ((f.subs.getD i sub0).2.length ≤ 300)
theorem small_of (f : Fld) (h : smallB f = true) : f.subs.length ≤ 30 ∧ f.tag.length ≤ 300 ∧ f.ind.length ≤ 300 ∧ ∀ i, i < f.subs.length → (f.subs.getD i sub0).2.length ≤ 300 := by
  unfold smallB at h
  simp only [Bool.and_eq_true, decide_eq_true_eq, List.all_eq_true, List.mem_range] at h
  exact ⟨h.1.1.1, h.1.1.2, h.1.2, h.2⟩
end

section
theorem catX_ok : ∀ (L : List Rec) (s : List UInt8), catX L = (s, 0) → (∀ r ∈ L, encX r = (formX r, 0)) ∧ s = L.flatMap formX
  | [], s, h => by
    obtain ⟨rfl, -⟩ := Prod.mk.inj (h : (([] : List UInt8), (0 : Int)) = (s, 0))
    exact ⟨fun r hr => (by cases hr), rfl⟩
  | r :: t, s, h => by
    unfold catX at h
    by_cases h0 : (encX r).2 ≠ 0
    · rw [if_pos h0] at h
      exact absurd (Prod.mk.inj h).2 h0
    rw [if_neg h0] at h
    by_cases h1 : (catX t).2 ≠ 0
    · rw [if_pos h1] at h
      exact absurd (Prod.mk.inj h).2 h1
    rw [if_neg h1] at h
    obtain ⟨hs, -⟩ := Prod.mk.inj h
    obtain ⟨x, e, hx⟩ : ∃ x e, encX r = (x, e) := ⟨_, _, rfl⟩
    obtain ⟨y, e2, hy⟩ : ∃ y e2, catX t = (y, e2) := ⟨_, _, rfl⟩
    have he0 : e = 0 := by rw [hx] at h0; exact Decidable.not_not.1 h0
    have he2 : e2 = 0 := by rw [hy] at h1; exact Decidable.not_not.1 h1
    subst he0 he2
    obtain ⟨hr1, hr2, hr3⟩ := enc_ok r x hx
    obtain ⟨ih1, ih2⟩ := catX_ok t y hy
    rw [hx, hy] at hs
    simp only at hs
    refine ⟨fun q hq => ?_, by rw [← hs, ih2, ← hr3]; rfl⟩
    rcases List.mem_cons.1 hq with rfl | hq
    · exact enc_of q hr1 hr2
    · exact ih1 q hq
theorem form_num (r : Rec) (h : encX r = (formX r, 0)) (t : List UInt8) : numF (formX r ++ t) 0 5 = ((formX r).length : Int) ∧ 26 ≤ (formX r).length := by
  obtain ⟨h1, h2, -⟩ := enc_ok r _ h
  have he := formX_eq r h1 h2
  have ht : 26 ≤ totX r.fields := by unfold totX baseX; omega
  refine ⟨?_, by omega⟩
  rw [he]
  refine numF_at _ 0 (totX r.fields) 4 ((formX r ++ t).drop 5) (by omega) ?_
  have hp := pad_len (totX r.fields) 4 (by omega)
  have hx : ∃ y, formX r = padI (totX r.fields) 5 ++ y := ⟨_, by unfold formX leadX; simp only [List.append_assoc]; rfl⟩
  obtain ⟨y, hy⟩ := hx
  rw [List.drop_zero, hy, List.append_assoc, List.drop_append_of_le_length (Nat.le_of_eq hp.symm), List.drop_of_length_le (Nat.le_of_eq hp), List.nil_append]
theorem split_form (r : Rec) (h : encX r = (formX r, 0)) (t : List UInt8) : splitF (formX r ++ t) = (splitF t).map (formX r :: ·) := by
  obtain ⟨h1, h2⟩ := form_num r h t
  have hne : formX r ++ t ≠ [] := by
    intro e
    have := congrArg List.length e
    rw [List.length_append] at this
    simp at this
    have h3 : (formX r).length = 0 := by rw [this.1]; rfl
    omega
  have hb : ¬ badF (formX r ++ t) := by
    unfold badF
    rw [h1, List.length_append]
    omega
  rw [splitF_go _ hne hb (formX r).length h1, List.drop_left, List.take_left]
theorem split_forms : ∀ (L : List Rec), (∀ r ∈ L, encX r = (formX r, 0)) → splitF (L.flatMap formX) = some (L.map formX)
  | [], _ => splitF_nil
  | r :: t, h => by
    rw [List.flatMap_cons, split_form r (h r (by simp)), split_forms t (fun q hq => h q (by simp [hq]))]
    rfl
theorem first_forms : ∀ (L : List Rec) (i : Nat), (∀ r ∈ L, encX r = (formX r, 0)) → firstD (L.map formX) i = (L, -1, 0)
  | [], _, _ => rfl
  | r :: t, i, h => by
    have hd : decE (formX r) = (r, 0) := (decE_iff _ _).2 (h r (by simp))
    rw [List.map_cons, firstD, hd, if_neg (fun h => h rfl), first_forms t (i + 1) (fun q hq => h q (by simp [hq]))]
    rfl
/-- What is exported is divided into the records' bytes, and imported as it was. -/
theorem exp_back (L : List Rec) (s : List UInt8) (h : expR L = (s, 0)) : (∀ r ∈ L, encX r = (formX r, 0)) ∧ splR s = (L.map formX, 0) ∧ impR s = (L, -1, 0) ∧ s.length ≤ 65536 ∧ L.length ≤ 64 := by
  unfold expR at h
  by_cases h64 : 64 < L.length
  · rw [if_pos h64] at h
    exact absurd (Prod.mk.inj h).2 (by decide)
  rw [if_neg h64] at h
  by_cases h0 : (catX L).2 ≠ 0
  · rw [if_pos h0] at h
    exact absurd (Prod.mk.inj h).2 h0
  rw [if_neg h0] at h
  by_cases h6 : 65536 < (catX L).1.length
  · rw [if_pos h6] at h
    exact absurd (Prod.mk.inj h).2 (by decide)
  rw [if_neg h6] at h
  obtain ⟨hs, -⟩ := Prod.mk.inj h
  obtain ⟨y, e2, hy⟩ : ∃ y e2, catX L = (y, e2) := ⟨_, _, rfl⟩
  have he2 : e2 = 0 := by rw [hy] at h0; exact Decidable.not_not.1 h0
  subst he2
  rw [hy] at hs h6
  simp only at hs h6
  subst hs
  obtain ⟨h1, h2⟩ := catX_ok L y hy
  have hsp := split_forms L h1
  rw [← h2] at hsp
  refine ⟨h1, by unfold splR; rw [hsp], ?_, by omega, by omega⟩
  unfold impR
  rw [hsp]
  simp only
  rw [List.length_map, if_neg h64, first_forms L 0 h1]
end

end Go.Proofs.YtiledacfdaenbaaGreatDoor
