/- Merged: R08A. -/
import Derived.Test.YtiledacfdaenbaaDoorQ15
import Derived.Deep.RegionLaw
import Derived.RegionTactic
import Derived.BigRegion
namespace Go.Proofs.YtiledacfdaenbaaDoor

section
open Go.RowKit Go.PlainAid
set_option maxHeartbeats 16000000 in
theorem refSameFields_any (A B : List Fld) (u v : Value) (w : World) (hu : FL u A w) (hv : FL v B w) (b : Bool) (hb : sameFB A B = b) :
    Calls Tryd.prog 28 #[u, v] w fun e w' => e = .returned (.bool b) ∧ Below w.heap.size w w' := by
  have HU := Lib.hid hu
  have HV := Lib.hid hv
  obtain ⟨a, cap, rfl, hcap, hmax⟩ := hu.length
  obtain ⟨a', cap', rfl, hcap', hmax'⟩ := hv.length
  unfold maxLen at hmax hmax'
  have HEq := Lib.hid (sameFB_iff A B)
  have HX := Lib.hid (fields_ext A B)
  generalize sameFB A B = bb at *
  subst hb
  have cS := Lib.hid (fun k x y W hx hy z hz => refSame_any (A.getD k fd0) (B.getD k fd0) x y W hx hy z hz)
  unfold FV at cS
  obtain ⟨n, hn⟩ : ∃ n, A.length = n := ⟨_, rfl⟩
  obtain ⟨m, hm⟩ : ∃ m, B.length = m := ⟨_, rfl⟩
  rw [hn] at hcap HU ⊢
  rw [hm] at hcap' HV ⊢
  have HN := Lib.hid hn
  have HM := Lib.hid hm
  clear hn hm hu hv
  by_cases hnm : n ≠ m
  · have t : ((n : Int) != (m : Int)) = true := by simp; omega
    obtain rfl : bb = false := by
      cases h : bb
      · rfl
      · exact absurd (HEq.out.1 h) (fun e => hnm (by rw [← HN.out, ← HM.out, e]))
    clear hnm
    go_enter Tryd.func28, Tryd.ntmps28
    go_wp2
    go_ret
    exact ⟨rfl, Below.refl _ _⟩
  obtain rfl : n = m := Decidable.not_not.1 hnm
  have t : ((n : Int) != (n : Int)) = false := by simp
  clear hnm
  go_enter Tryd.func28, Tryd.ntmps28
  go_wp2
  go_loopw [5] (fun i wr => ∃ k : Nat, k ≤ n ∧ i = .int .i64 (k : Int) ∧ RowKit.Hid (∀ j, j < k → A.getD j fd0 = B.getD j fd0) ∧ Below w.heap.size w wr) (fun i _ => n - (intOf i).toNat)
  case atStart => exact ⟨0, Nat.zero_le _, rfl, (fun j hj => by omega), Below.refl _ _⟩
  case round =>
    obtain ⟨k, hk, rfl, HJ, hbw⟩ := hrel
    by_cases hkn : k < n
    · obtain ⟨g, o, cp, x, he, hg, c0, c1, c2, c3, hq⟩ := (HU.out.after hbw).at k (by rw [HN.out]; exact hkn)
      obtain ⟨ha, -, hcp⟩ := Value.slice.inj he
      subst ha hcp
      clear he
      obtain ⟨g', o', cp', y, he', hg', d0, d1, d2, d3, hq'⟩ := (HV.out.after hbw).at k (by rw [HM.out]; exact hkn)
      obtain ⟨ha', -, hcp'⟩ := Value.slice.inj he'
      subst ha' hcp'
      clear he'
      have i1 : (0 : Int) ≤ (k : Int) := by omega
      have i2 : (k : Int) < (n : Int) := by omega
      cases hsf : sameB (A.getD k fd0) (B.getD k fd0)
      · obtain rfl : bb = false := by
          cases h : bb
          · rfl
          · exact absurd (by rw [HEq.out.1 h]) (sameB_ne hsf)
        have cA := Lib.hid (fun W (h : Below wr.heap.size wr W) => cS.out k x y W (hq.after h) (hq'.after h) false hsf)
        have Fin := Lib.hid hbw
        have Fin0 := Lib.hid (Below.refl wr.heap.size wr)
        clear HJ hq hq' hsf HEq HX
        generalize S (A.getD k fd0).tag = t0 at *
        generalize S (A.getD k fd0).ind = t1 at *
        generalize (A.getD k fd0).auth = t3 at *
        generalize S (B.getD k fd0).tag = s0 at *
        generalize S (B.getD k fd0).ind = s1 at *
        generalize (B.getD k fd0).auth = s3 at *
        go_wp2
        go_region_law (first | (go_simp; go_at_call 43; refine (cA.out _ ?_).mono ?_; (first | exact Fin0.out | exact Fin0.out.drew); rintro e w5 ⟨rfl, d⟩; have Fin2 := Lib.hid (Fin.out.drew.trans (d.mono Fin.out.size))))
        all_goals
          go_wp2
          go_ret
          exact ⟨rfl, Fin2.out⟩
      · have cA := Lib.hid (fun W (h : Below wr.heap.size wr W) => cS.out k x y W (hq.after h) (hq'.after h) true hsf)
        have Fin := Lib.hid hbw
        have Fin0 := Lib.hid (Below.refl wr.heap.size wr)
        have HJ2 : RowKit.Hid (∀ j, j < k + 1 → A.getD j fd0 = B.getD j fd0) := by
          intro j hj
          rcases Nat.lt_or_ge j k with h | h
          · exact HJ.out j h
          · rw [show j = k by omega]; exact (sameB_iff _ _).1 hsf
        clear HJ hq hq' hsf HEq HX
        generalize S (A.getD k fd0).tag = t0 at *
        generalize S (A.getD k fd0).ind = t1 at *
        generalize (A.getD k fd0).auth = t3 at *
        generalize S (B.getD k fd0).tag = s0 at *
        generalize S (B.getD k fd0).ind = s1 at *
        generalize (B.getD k fd0).auth = s3 at *
        go_wp2
        go_region_law (first | (go_simp; go_at_call 43; refine (cA.out _ ?_).mono ?_; (first | exact Fin0.out | exact Fin0.out.drew); rintro e w5 ⟨rfl, d⟩; have Fin2 := Lib.hid (Fin.out.drew.trans (d.mono Fin.out.size))))
        all_goals
          go_wp2
          go_roundw
          case rel => exact ⟨k + 1, by omega, by go_num, HJ2, Fin2.out⟩
          case measure => simp [intOf]; omega
    · obtain rfl : k = n := by omega
      obtain rfl : bb = true := HEq.out.2 (HX.out (by rw [HN.out, HM.out]) (fun j hj => HJ.out j (by rw [HN.out] at hj; exact hj)))
      go_wp2
      go_ret
      exact ⟨rfl, hbw⟩
end

end Go.Proofs.YtiledacfdaenbaaDoor
