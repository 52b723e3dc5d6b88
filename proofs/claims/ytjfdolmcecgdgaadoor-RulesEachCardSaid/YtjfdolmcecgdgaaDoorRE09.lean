/- libraryref09: Find, Tagged, Count, Small. -/
import Derived.Test.YtjfdolmcecgdgaaDoorUE09
import Derived.Test.YtjfdolmcecgdgaaDoorQL
namespace Go.Proofs.YtjfdolmcecgdgaaDoor
open Go.RowKit Go.PlainAid

set_option maxHeartbeats 16000000 in
theorem refFind_any (l : List Rul) (v : Value) (g : List UInt8) (w : World) (hv : TL v l w) (t : Rul) (b : Bool) (hb : findR l g = (t, b)) :
    Calls Tryd.prog 12 #[v, .string (S g)] w fun e w' => e = .returned (.tuple #[UV t, .bool b]) ∧ Below w.heap.size w w' := by
  have HU := Lib.hid hv
  obtain ⟨a, cap, rfl, hcap, hmax⟩ := hv.length
  unfold maxLen at hmax
  obtain ⟨n, hn⟩ : ∃ n, l.length = n := ⟨_, rfl⟩
  rw [hn] at hcap HU ⊢
  have HN := Lib.hid hn
  have HHit := Lib.hid (fun k (hk : k < n) h he => hb.symm.trans (findR_hit l g k (by omega) h he))
  have HMiss := Lib.hid (fun h => hb.symm.trans (findR_miss l g h))
  obtain ⟨W0, hW0⟩ : ∃ W0, w.alloc (.cells #[.string ⟨#[]⟩, .bool false, .bool false, .string ⟨#[]⟩, .string ⟨#[]⟩, .string ⟨#[]⟩, .int .i64 0] 25) = W0 := ⟨_, rfl⟩
  have hZ : Z7 w.heap.size W0 := by rw [← hW0]; exact heap_alloc_new w _
  have b0 : Below w.heap.size w W0 := by rw [← hW0]; exact (Below.refl w.heap.size w).alloc (Nat.le_refl _) _
  have HZ := Lib.hid hZ
  have HB0 := Lib.hid b0
  have HU0 := Lib.hid (HU.out.after b0)
  have HW0 := Lib.hid hW0
  have HRef := Lib.hid (Below.refl W0.heap.size W0)
  have HEq := Lib.hid (fun k => S_eq9 (l.getD k rul0).tag g)
  obtain ⟨sg, hsg⟩ : ∃ s, S g = s := ⟨_, rfl⟩
  rw [hsg] at HEq ⊢
  clear hn hW0 hZ b0 hv hb hsg
  go_enter Tryd.func12, Tryd.ntmps12
  go_wp2
  rw [HW0.out]
  go_loopw [6] (fun i wr => ∃ k : Nat, k ≤ n ∧ i = .int .i64 (k : Int) ∧ RowKit.Hid (∀ j, j < k → (l.getD j rul0).tag ≠ g) ∧ wr = W0) (fun i _ => n - (intOf i).toNat)
  case atStart => exact ⟨0, Nat.zero_le _, rfl, (fun j hj => by omega), rfl⟩
  case round =>
    obtain ⟨k, hk, rfl, HJ, hwr⟩ := hrel
    by_cases hkn : k < n
    · obtain ⟨g', o, cap', he, hg, hR⟩ := (HU0.out).at k (by rw [HN.out]; exact hkn)
      rw [← hwr] at hR
      obtain ⟨ha, -, hcp⟩ := Value.slice.inj he
      subst ha hcp
      clear he
      obtain ⟨c0, c1, c2, c3, c4, c5, c6⟩ := hR
      have i1 : (0 : Int) ≤ (k : Int) := by omega
      have i2 : (k : Int) < (n : Int) := by omega
      have hte := HEq.out k
      have HHk := Lib.hid (HHit.out k hkn HJ.out)
      obtain ⟨tk, htk⟩ : ∃ tk, l.getD k rul0 = tk := ⟨_, rfl⟩
      rw [htk] at c0 c1 c2 c3 c4 c5 c6 hte HHk
      have HTK := Lib.hid htk
      have hzw : Z7 w.heap.size wr := by rw [hwr]; exact HZ.out
      have HZw := Lib.hid hzw
      have HWr := Lib.hid hwr
      clear htk HHit hwr
      by_cases htg : tk.tag = g
      · rw [decide_eq_true htg] at hte
        have HRes := Lib.hid (HHk.out htg)
        obtain ⟨⟨k0, k1, k2, k3, k4, k5, k6⟩, f0, f1, f2, f3, f4, f5, f6⟩ := hzw.cells
        clear htg hzw
        go_wp2
        have hz := rul_set (x0 := .string (S tk.tag)) (x1 := .bool tk.rep) (x2 := .bool tk.must) (x3 := .string (S tk.codes)) (x4 := .string (S tk.once)) (x5 := .string (S tk.needs)) (x6 := .int .i64 tk.auth) HZw.out
        refine bodyPost_ret (results_row_tmp9 rfl _ _ w.heap.size _ _ _ _ rfl hz Tryd.underlying25 rfl (by kernel_rfl)) rfl ?_
        have hr := HRes.out
        simp only [Prod.mk.injEq] at hr
        obtain ⟨rfl, rfl⟩ := hr
        exact ⟨rfl, rul_below (by rw [HWr.out]; exact HB0.out) (Nat.le_refl _) _ _ _ _ _ _ _⟩
      · rw [decide_eq_false htg] at hte
        have HJ2 : RowKit.Hid (∀ j, j < k + 1 → (l.getD j rul0).tag ≠ g) := by
          intro j hj
          rcases Nat.lt_or_ge j k with h | h
          · exact HJ.out j h
          · rw [show j = k by omega, HTK.out]; exact htg
        clear htg HJ hzw
        go_wp2
        go_roundw
        case rel => exact ⟨k + 1, by omega, by go_num, HJ2, HWr.out⟩
        case measure => simp [intOf]; omega
    · obtain rfl : k = n := by omega
      have HRes := Lib.hid (HMiss.out (fun j hj => HJ.out j (by rw [HN.out] at hj; exact hj)))
      have hzw : Z7 w.heap.size wr := by rw [hwr]; exact HZ.out
      have HZw := Lib.hid hzw
      have HWr := Lib.hid hwr
      obtain ⟨⟨k0, k1, k2, k3, k4, k5, k6⟩, f0, f1, f2, f3, f4, f5, f6⟩ := hzw.cells
      clear hwr hzw
      go_wp2
      have hz := rul_set (x0 := .string ⟨#[]⟩) (x1 := .bool false) (x2 := .bool false) (x3 := .string ⟨#[]⟩) (x4 := .string ⟨#[]⟩) (x5 := .string ⟨#[]⟩) (x6 := .int .i64 0) HZw.out
      refine bodyPost_ret (results_row_tmp9 rfl _ _ w.heap.size _ _ _ _ rfl hz Tryd.underlying25 rfl (by kernel_rfl)) rfl ?_
      have hr := HRes.out
      simp only [Prod.mk.injEq] at hr
      obtain ⟨rfl, rfl⟩ := hr
      exact ⟨rfl, rul_below (by rw [HWr.out]; exact HB0.out) (Nat.le_refl _) _ _ _ _ _ _ _⟩
end Go.Proofs.YtjfdolmcecgdgaaDoor
