/- The laws' own: a field's problems as if it were alone. -/
import Derived.Test.YtjfdolmcecgdgaaDoorRJ09
namespace Go.Proofs.YtjfdolmcecgdgaaDoor
open Go.RowKit Go.PlainAid

def ownP (idx : Int) (x : Prb) : List Prb := if x.kind ≠ 1 ∧ x.kind ≠ 3 ∧ x.index = idx then [⟨x.kind, 0, x.tag, x.code⟩] else []
def ownL (idx : Int) (p : List Prb) : List Prb := p.flatMap (ownP idx)
theorem ownL_succ (idx : Int) (p : List Prb) (k : Nat) (h : k < p.length) : ownL idx (p.take (k + 1)) = ownL idx (p.take k) ++ ownP idx (p.getD k prb0) := by
  unfold ownL
  rw [List.take_succ_eq_append_getElem h, List.flatMap_append, List.getD_eq_getElem?_getD, List.getElem?_eq_getElem h]
  simp
theorem ownL_le (idx : Int) : ∀ p : List Prb, (ownL idx p).length ≤ p.length
  | [] => Nat.le_refl 0
  | t :: s => by
    have := ownL_le idx s
    unfold ownL at this ⊢
    rw [List.flatMap_cons, List.length_append, List.length_cons]
    have h1 : (ownP idx t).length ≤ 1 := by
      unfold ownP
      split
      · exact Nat.le_refl 1
      · exact Nat.zero_le _
    omega

set_option maxHeartbeats 16000000 in
set_option maxRecDepth 100000 in
theorem own_any (p : List Prb) (x : Value) (idx : Int) (w : World) (hx : PL x p w) (hz : p.length ≤ 900000) :
    Calls Tryd.prog 23 #[x, .int .i64 idx] w fun e w' => ∃ v', e = .returned v' ∧ PL v' (ownL idx p) w' ∧ Below w.heap.size w w' := by
  have HU := Lib.hid hx
  obtain ⟨a, cap, rfl, hcap, hmax⟩ := hx.length
  unfold maxLen at hmax
  have HStep := Lib.hid (ownL_succ idx p)
  have HLe := Lib.hid (fun k => Nat.le_trans (ownL_le idx (p.take k)) (List.length_take_le k p))
  have HTake : RowKit.Hid (p.take p.length = p) := List.take_length
  obtain ⟨n, hn⟩ : ∃ n, p.length = n := ⟨_, rfl⟩
  have HN := Lib.hid hn
  rw [hn] at hcap HU HStep HTake hz ⊢
  have HPE := Lib.hid (PR.empty w w.heap.size (Nat.le_refl _))
  have HEA := Lib.hid ((Below.refl w.heap.size w).alloc (Nat.le_refl _) (.cells #[] 44))
  clear hx hn
  go_enter Tryd.func23, Tryd.ntmps23
  go_wp2
  go_loopw [5, 6] (fun s i wr => ∃ k : Nat, k ≤ n ∧ i = .int .i64 (k : Int) ∧ PR w.heap.size s (ownL idx (p.take k)) wr ∧ Below w.heap.size w wr) (fun _ i _ => n - (intOf i).toNat)
  case atStart => exact ⟨0, Nat.zero_le _, rfl, HPE.out, HEA.out⟩
  case round =>
    obtain ⟨k, hk, rfl, hpr, hbw⟩ := hrel
    by_cases hkn : k < n
    · obtain ⟨g', o, cap', he, hg, hR⟩ := (HU.out.after hbw).at k (by rw [HN.out]; exact hkn)
      obtain ⟨ha, -, hcp⟩ := Value.slice.inj he
      subst ha hcp
      clear he
      obtain ⟨c0, c1, c2, c3⟩ := hR
      have i1 : (0 : Int) ≤ (k : Int) := by omega
      have i2 : (k : Int) < (n : Int) := by omega
      have hst := HStep.out k hkn
      have hle : (ownL idx (p.take k)).length ≤ n := Nat.le_trans (HLe.out k) (by have := HN.out; omega)
      obtain ⟨y, hy⟩ : ∃ y, p.getD k prb0 = y := ⟨_, rfl⟩
      rw [hy] at c0 c1 c2 c3 hst
      obtain ⟨ao, cp, hs⟩ := own_form9 hpr
      subst hs
      have HPR := Lib.hid hpr
      have HBw := Lib.hid hbw
      obtain ⟨mn, hmn⟩ : ∃ m, (ownL idx (p.take k)).length = m := ⟨_, rfl⟩
      have HMn := Lib.hid hmn
      rw [hmn] at HPR hle ⊢
      obtain ⟨st, hst2⟩ : ∃ s, S y.tag = s := ⟨_, rfl⟩
      have HStT := Lib.hid hst2
      obtain ⟨cv, hcv⟩ : ∃ v, (y.code.toNat : Int) = v := ⟨_, rfl⟩
      have HCv := Lib.hid hcv
      obtain ⟨kd, hkd⟩ : ∃ v, y.kind = v := ⟨_, rfl⟩
      obtain ⟨ix, hix⟩ : ∃ v, y.index = v := ⟨_, rfl⟩
      rw [hkd] at c0
      rw [hix] at c1
      rw [hst2] at c2
      rw [hcv] at c3
      have hNo : (kd = 1 ∨ kd = 3 ∨ ix ≠ idx) → ownL idx (p.take (k + 1)) = ownL idx (p.take k) := fun h => by
        rw [hst]
        unfold ownP
        rw [if_neg (by rw [hkd, hix]; rcases h with h | h | h <;> (intro h'; omega)), List.append_nil]
      have hYes : kd ≠ 1 → kd ≠ 3 → ix = idx → ownL idx (p.take (k + 1)) = ownL idx (p.take k) ++ [⟨kd, 0, y.tag, y.code⟩] := fun h1 h2 h3 => by
        rw [hst]
        unfold ownP
        rw [hkd, hix, if_pos ⟨h1, h2, h3⟩]
      have HNo := Lib.hid hNo
      have HYes := Lib.hid hYes
      clear hNo hYes hst hpr hbw hmn hst2 hcv hkd hix hy
      by_cases q1 : kd = 1
      · have HE := Lib.hid (HNo.out (.inl q1))
        have d1 : (kd != 1) = false := by simp [q1]
        clear HNo HYes q1
        go_wp2
        go_roundw
        case rel => exact ⟨k + 1, by omega, by go_num, by rw [HE.out]; exact HPR.out, HBw.out⟩
        case measure => simp [intOf]; omega
      have d1 : (kd != 1) = true := by simpa using q1
      by_cases q2 : kd = 3
      · have HE := Lib.hid (HNo.out (.inr (.inl q2)))
        have d2 : (kd != 3) = false := by simp [q2]
        clear HNo HYes q1 q2
        go_wp2
        go_roundw
        case rel => exact ⟨k + 1, by omega, by go_num, by rw [HE.out]; exact HPR.out, HBw.out⟩
        case measure => simp [intOf]; omega
      have d2 : (kd != 3) = true := by simpa using q2
      by_cases q3 : ix = idx
      · have HE := Lib.hid (HYes.out q1 q2 q3)
        have d3 : (ix == idx) = true := by simpa using q3
        clear HNo HYes q1 q2 q3
        go_upto_region 6 with fail
        have bD : Below wr.heap.size wr wr.drew := ⟨rfl, rfl, rfl, Nat.le_refl _, fun _ _ => rfl⟩
        have hAl := (Below.refl wr.drew.heap.size wr.drew).alloc (Nat.le_refl _) (.cells #[.int .i64 kd, .int .i64 0, .string st, .int .u8 cv] 44)
        have hOne : PL (.slice (some ⟨wr.heap.size, 0, none⟩) 1 1) [⟨kd, 0, y.tag, y.code⟩] (wr.drew.alloc (.cells #[.int .i64 kd, .int .i64 0, .string st, .int .u8 cv] 44)) := PL.one' wr.drew kd 0 y.tag y.code st cv HStT.out HCv.out
        have hRow := (HPR.out.after bD).after hAl
        have hBx := (HBw.out.trans (bD.mono HBw.out.size)).trans (hAl.mono (Nat.le_trans HBw.out.size bD.size))
        clear bD hAl
        go_region_law (first
          | (refine step_append_pr _ (by rfl) _ _ (by rfl) w.heap.size _ (ownL idx (p.take k)) (by rfl) hRow ⟨kd, 0, y.tag, y.code⟩ ⟨wr.heap.size, 0, none⟩ (by rfl) hOne (by rw [HMn.out]; omega) hBx.size ?_; intro g3 cap3 w3 hown3 hgrow3))
        all_goals
          have HO := Lib.hid hown3
          have HB3 := Lib.hid (hBx.grown hgrow3 hBx.size (fun j hj => (World.ownsRow.lt hRow j hj).1))
          clear hown3 hgrow3 hOne hRow hBx
          go_wp2
          go_roundw
          case rel => exact ⟨k + 1, by omega, by go_num, by rw [HE.out]; exact HO.out, HB3.out⟩
          case measure => simp [intOf]; omega
      · have HE := Lib.hid (HNo.out (.inr (.inr q3)))
        have d3 : (ix == idx) = false := by simpa using q3
        clear HNo HYes q1 q2 q3
        go_wp2
        go_roundw
        case rel => exact ⟨k + 1, by omega, by go_num, by rw [HE.out]; exact HPR.out, HBw.out⟩
        case measure => simp [intOf]; omega
    · obtain rfl : k = n := by omega
      rw [HTake.out] at hpr
      obtain ⟨ao, cp, hs⟩ := own_form9 hpr
      subst hs
      have HF := Lib.hid hpr.pl
      have HFb := Lib.hid hbw
      clear hpr hbw
      go_wp2
      go_ret
      exact ⟨_, rfl, HF.out, HFb.out⟩
end Go.Proofs.YtjfdolmcecgdgaaDoor
