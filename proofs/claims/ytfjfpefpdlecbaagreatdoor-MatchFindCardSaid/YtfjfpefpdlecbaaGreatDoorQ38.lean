/- Merged: KM15. -/
import Derived.Test.YtfjfpefpdlecbaaGreatDoorQ29
namespace Go.Proofs.YtfjfpefpdlecbaaGreatDoor

section
open Go.RowKit Go.PlainAid
set_option maxHeartbeats 16000000 in
set_option maxRecDepth 100000 in
theorem pStd15_any (w : World) :
    Calls Tryz.prog 13 #[] w fun e w' => ∃ v, e = .returned (MV standardM v) ∧ KL v standardM.keys w' ∧ Below w.heap.size w w' := by
  obtain ⟨Q, hQ⟩ : ∃ Q, (fun (e : Ending) (w' : World) => ∃ v, e = .returned (MV standardM v) ∧ KL v standardM.keys w' ∧ Below w.heap.size w w') = Q := ⟨_, rfl⟩
  rw [hQ]
  obtain ⟨W0, hW0⟩ : ∃ W0, w.alloc (.cells #[.slice none 0 0, .int .i64 0] 24) = W0 := ⟨_, rfl⟩
  have hR : W0.heap[w.heap.size]? = some (.cells #[.slice none 0 0, .int .i64 0] 24 (0, 0)) := by rw [← hW0]; exact heap_alloc_new w _
  have b0 : Below w.heap.size w W0 := by rw [← hW0]; exact (Below.refl w.heap.size w).alloc (Nat.le_refl _) _
  have hlt : w.heap.size < W0.heap.size := by rw [← hW0]; simp
  have HR := Lib.hid (fun (W : World) (h : Below W0.heap.size W0 W) => (h.block w.heap.size hlt).trans hR)
  have HEnd : RowKit.Hid (∀ W bw, bw = W.heap.size → Below W0.heap.size W0 W →
      (((W.setCell ⟨w.heap.size, 0, none⟩ (.slice (some ⟨bw, 0, none⟩) 6 6)).setCell ⟨w.heap.size, 1, none⟩ (.int .i64 100)).alloc (.cells stdC 39)).heap[w.heap.size]? = some (.cells #[.slice (some ⟨bw, 0, none⟩) 6 6, .int .i64 100] 24 (0, 0)) ∧
      Q (.returned (.agg #[.slice (some ⟨bw, 0, none⟩) 6 6, .int .i64 100])) (((W.setCell ⟨w.heap.size, 0, none⟩ (.slice (some ⟨bw, 0, none⟩) 6 6)).setCell ⟨w.heap.size, 1, none⟩ (.int .i64 100)).alloc (.cells stdC 39))) := by
    rintro W bw rfl hW
    have hltW : w.heap.size < W.heap.size := Nat.lt_of_lt_of_le hlt hW.size
    have h1 := HR.out W hW
    have hb := b0.trans (hW.mono b0.size)
    have hb2 := (hb.setCell (p := ⟨w.heap.size, 0, none⟩) (Nat.le_refl _) (.slice (some ⟨W.heap.size, 0, none⟩) 6 6)).setCell (p := ⟨w.heap.size, 1, none⟩) (Nat.le_refl _) (.int .i64 100)
    obtain ⟨V, hV⟩ : ∃ V, (W.setCell ⟨w.heap.size, 0, none⟩ (.slice (some ⟨W.heap.size, 0, none⟩) 6 6)).setCell ⟨w.heap.size, 1, none⟩ (.int .i64 100) = V := ⟨_, rfl⟩
    have hVs : V.heap.size = W.heap.size := by rw [← hV]; simp [World.setCell]
    have hV1 : V.heap[w.heap.size]? = some (.cells #[.slice (some ⟨W.heap.size, 0, none⟩) 6 6, .int .i64 100] 24 (0, 0)) := by
      rw [← hV]
      simp [World.setCell, Array.getElem?_modify, h1]
    rw [hV] at hb2 ⊢
    refine ⟨(Below.heap_alloc _ _ _ (by omega)).trans hV1, ?_⟩
    rw [← hQ]
    refine ⟨_, rfl, ?_, hb2.alloc (by omega) _⟩
    have := KL.std _ _ (heap_alloc_new V (.cells stdC 39))
    rw [hVs] at this
    exact this
  have HRB := Lib.hid (Below.refl W0.heap.size W0)
  have HW0 := Lib.hid hW0
  clear hQ hW0 hR b0 hlt
  unfold stdC at HEnd
  go_enter Tryz.func13, Tryz.ntmps13
  go_upto_region 1 with fail
  rw [HW0.out]
  obtain ⟨m0, m1⟩ := mcells2 (HR.out W0 HRB.out)
  have s0 := Lib.frozen_of_heap (HR.out W0 HRB.out) 0
  have s1 := Lib.frozen_of_heap (HR.out W0 HRB.out) 1
  obtain ⟨hfin, hg⟩ := HEnd.out W0 _ rfl HRB.out
  have HFin := Lib.hid hfin
  have HG := Lib.hid hg
  have hltw : w.heap.size < W0.heap.size := (Array.getElem?_eq_some_iff.1 (HR.out W0 HRB.out)).1
  clear hfin hg HEnd
  go_wp2
  (try simp only [Exit.inBlock, Exit.then])
  refine bodyPost_ret (results_cell_row rfl _ _ w.heap.size _ _ _ _ rfl HFin.out Tryz.underlying24 rfl (by kernel_rfl)) rfl ?_
  exact HG.out
end

end Go.Proofs.YtfjfpefpdlecbaaGreatDoor
