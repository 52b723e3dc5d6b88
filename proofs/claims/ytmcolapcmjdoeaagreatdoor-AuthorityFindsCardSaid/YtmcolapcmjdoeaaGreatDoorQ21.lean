/- Merged: QB13. -/
import Derived.Test.YtmcolapcmjdoeaaGreatDoorQ18
import Derived.Test.YtmcolapcmjdoeaaGreatDoorQ20
import Derived.Deep.RegionLaw
namespace Go.Proofs.YtmcolapcmjdoeaaGreatDoor

section
open Go.RowKit Go.PlainAid
theorem NR.base {B B' : Nat} {v : Value} {L : List (List UInt8)} {w : World} (h : NR B' v L w) (hB : B ≤ B') : NR B v L w := by
  refine ⟨h.1, ?_⟩
  rcases h.2 with hn | ⟨g, cap, cur, hv, hB', rest⟩
  · exact .inl hn
  · exact .inr ⟨g, cap, cur, hv, Nat.le_trans hB hB', rest⟩
theorem IR.base {B B' : Nat} {v : Value} {l : List Int} {w : World} (h : IR B' v l w) (hB : B ≤ B') : IR B v l w := by
  refine ⟨h.1, ?_⟩
  rcases h.2 with hn | ⟨g, cap, cur, hv, hB', rest⟩
  · exact .inl hn
  · exact .inr ⟨g, cap, cur, hv, Nat.le_trans hB hB', rest⟩

theorem own_put {B e size n : Nat} {v : Value} {xs : List Value} {w : World} (h : w.ownsRow B e size v n xs) {p : Addr} (hp : p.block < B) (u : Value) : (w.setCell p u).ownsRow B e size v n xs := by
  refine ⟨h.1, ?_⟩
  rcases h.2 with hn | ⟨g, cap, cur, hv, hB, hg, rest⟩
  · exact .inl hn
  · exact .inr ⟨g, cap, cur, hv, hB, (Below.heap_setCell w p u g (by omega)).trans hg, rest⟩
theorem own_put5 {B e size n : Nat} {v : Value} {xs : List Value} {w : World} (h : w.ownsRow B e size v n xs) {b : Nat} (hp : b < B) (x0 x1 x2 x3 x4 : Value) : (setA5 w b x0 x1 x2 x3 x4).ownsRow B e size v n xs :=
  own_put (own_put (own_put (own_put (own_put h (p := ⟨b, 0, none⟩) hp x0) (p := ⟨b, 1, none⟩) hp x1) (p := ⟨b, 2, none⟩) hp x2) (p := ⟨b, 3, none⟩) hp x3) (p := ⟨b, 4, none⟩) hp x4

set_option maxHeartbeats 8000000 in
theorem headings_any (a : Au) (s t : Value) (w : World) (h : BL s a.see w) (hz : a.see.length ≤ 100000) :
    Calls Tryz.prog 52 #[AV a s t] w fun e w' => ∃ v, e = .returned v ∧ NR w.heap.size v (hdsX a) w' ∧ v ≠ .slice none 0 0 ∧ Below w.heap.size w w' := by
  obtain ⟨W0, hW0⟩ : ∃ W, w.alloc (.cells #[.int .i64 a.id, .int .i64 a.kind, .string (S a.heading), s, t] 31) = W := ⟨_, rfl⟩
  have b0 : Below w.heap.size w W0 := by rw [← hW0]; exact (Below.refl _ _).alloc (Nat.le_refl _) _
  have hR0 : W0.heap[w.heap.size]? = some (.cells #[.int .i64 a.id, .int .i64 a.kind, .string (S a.heading), s, t] 31 (0, 0)) := by rw [← hW0]; exact heap_alloc_new w _
  have hlt0 : w.heap.size < W0.heap.size := by rw [← hW0]; simp
  obtain ⟨sa, sc, hs, hc1, hc2⟩ := h.length
  subst hs
  have HW0 := Lib.hid hW0
  obtain ⟨⟨x0, x1, x2, x3, x4⟩, -⟩ := acells hR0
  have b1 : Below W0.heap.size W0 (W0.alloc (.cells #[.string (S a.heading)] 9)) := (Below.refl _ _).alloc (Nat.le_refl _) _
  have HU := Lib.hid ((h.after b0).after b1)
  have HR1 : RowKit.Hid (NR W0.heap.size (.slice (some ⟨W0.heap.size, 0, none⟩) 1 1) [a.heading] (W0.alloc (.cells #[.string (S a.heading)] 9))) := (SR.one13 W0 a.heading).row
  have HB1 := Lib.hid b1
  have HB0 := Lib.hid b0
  obtain ⟨n, hn⟩ : ∃ n, a.see.length = n := ⟨_, rfl⟩
  have HZ : RowKit.Hid ([a.heading].length + a.see.length ≤ 1000000) := by unfold RowKit.Hid; rw [List.length_singleton]; omega
  rw [hn] at HU x3 HW0 hc1 ⊢
  have HH : RowKit.Hid ([a.heading] ++ a.see = hdsX a) := rfl
  have x3' := (b1.cell (p := ⟨w.heap.size, 3, none⟩) hlt0).trans x3
  clear hW0 hR0 h hn b0 b1
  unfold AV
  go_enter Tryz.func52, Tryz.ntmps52
  go_upto_region 1 with fail
  rw [HW0.out]
  clear HW0
  go_wp2_with (at_builtin; refine append_sS _ rfl _ _ rfl W0.heap.size (.slice (some ⟨W0.heap.size, 0, none⟩) 1 1) [a.heading] rfl HR1.out (fun h => by cases h) (.slice sa n sc) a.see rfl HU.out HZ.out (by simp) ?_; intro v2 w2 h2 hg2 hn2 hl2)
  have HB2 : RowKit.Hid (Below w.heap.size w w2) := HB0.out.trans ((HB1.out.grown hg2 HB1.out.size (fun j hj => by cases hj; exact Nat.le_refl _)).mono HB0.out.size)
  rw [HH.out] at h2
  have H2 := Lib.hid (h2.base HB0.out.size)
  have HN2 := Lib.hid hn2
  obtain ⟨ao, cp, rfl, _, _⟩ := own_form13 h2
  clear h2 hg2 hn2 hl2
  go_wp2
  go_ret
  exact ⟨_, rfl, H2.out, HN2.out, HB2.out⟩

set_option maxHeartbeats 16000000 in
set_option maxRecDepth 100000 in
theorem clone_any (a : Au) (s t : Value) (w : World) (h : AN a s t w) (hz : a.see.length ≤ 100000) (hy : a.above.length ≤ 100000) :
    Calls Tryz.prog 35 #[AV a s t] w fun e w' => ∃ s' t', e = .returned (AV a s' t') ∧ NR w.heap.size s' a.see w' ∧ IR w.heap.size t' a.above w' ∧ Below w.heap.size w w' := by
  obtain ⟨Q, hQ⟩ : ∃ Q, (fun (e : Ending) (w' : World) => ∃ s' t', e = .returned (AV a s' t') ∧ NR w.heap.size s' a.see w' ∧ IR w.heap.size t' a.above w' ∧ Below w.heap.size w w') = Q := ⟨_, rfl⟩
  rw [hQ]
  have HQ : RowKit.Hid (∀ s' t' W, NR w.heap.size s' a.see W → IR w.heap.size t' a.above W → Below w.heap.size w W → Q (.returned (AV a s' t')) W) := by
    rw [← hQ]
    exact fun s' t' W h1 h2 h3 => ⟨s', t', rfl, h1, h2, h3⟩
  obtain ⟨W0, hW0⟩ : ∃ W, (w.alloc (.cells #[.int .i64 a.id, .int .i64 a.kind, .string (S a.heading), s, t] 31)).alloc (.cells #[.int .i64 0, .int .i64 0, .string ⟨#[]⟩, .slice none 0 0, .slice none 0 0] 31) = W := ⟨_, rfl⟩
  have b0 : Below w.heap.size w W0 := by rw [← hW0]; exact ((Below.refl _ _).alloc (Nat.le_refl _) _).alloc (by simp) _
  have hR0 : W0.heap[w.heap.size]? = some (.cells #[.int .i64 a.id, .int .i64 a.kind, .string (S a.heading), s, t] 31 (0, 0)) := by
    rw [← hW0]
    exact (Below.heap_alloc _ _ _ (by simp)).trans (heap_alloc_new w _)
  have hR1 : W0.heap[w.heap.size + 1]? = some (.cells #[.int .i64 0, .int .i64 0, .string ⟨#[]⟩, .slice none 0 0, .slice none 0 0] 31 (0, 0)) := by
    rw [← hW0]
    have := heap_alloc_new (w.alloc (.cells #[.int .i64 a.id, .int .i64 a.kind, .string (S a.heading), s, t] 31)) (.cells #[.int .i64 0, .int .i64 0, .string ⟨#[]⟩, .slice none 0 0, .slice none 0 0] 31)
    simpa using this
  have hsz0 : W0.heap.size = w.heap.size + 2 := by rw [← hW0]; simp
  obtain ⟨sa, sc, hs, -, -⟩ := h.1.length
  obtain ⟨ta, tc, ht, -⟩ := h.2
  have HS := Lib.hid (h.1.after b0)
  have HT := Lib.hid (h.2.after b0)
  subst hs ht
  have cS := Lib.hid (fun W (hb : Below W0.heap.size W0 W) => cloneS_any a.see _ W (HS.out.after hb) hz)
  have cI := Lib.hid (fun W (hb : Below W0.heap.size W0 W) => cloneI_any a.above _ W (HT.out.after hb) hy)
  have HW0 := Lib.hid hW0
  have HR0 := Lib.hid hR0
  have HR1 := Lib.hid hR1
  have HB0 := Lib.hid b0
  have HS0 := Lib.hid hsz0
  obtain ⟨⟨x0, x1, x2, x3, x4⟩, -⟩ := acells hR0
  have F0 := Lib.hid (Below.refl W0.heap.size W0).drew
  have hlt0 : w.heap.size < W0.heap.size := by omega
  have hlt1 : w.heap.size + 1 < W0.heap.size := by omega
  unfold AV at HQ ⊢
  clear hQ hW0 hR0 hR1 hsz0 b0 h HS HT
  generalize a.see.length = sn at *
  generalize a.above.length = tn at *
  generalize S a.heading = hd at *
  generalize a.id = ai at *
  generalize a.kind = ak at *
  go_enter Tryz.func35, Tryz.ntmps35
  go_upto_region 1 with fail
  rw [HW0.out]
  clear HW0
  go_region_law (first
    | (go_simp; go_at_call 66; refine (cS.out _ ?_).mono ?_; (exact F0.out); rintro e w6 ⟨v6, rfl, hr6, hb6⟩; have hb06 : Below W0.heap.size W0 w6 := F0.out.trans (hb6.mono F0.out.size); have z4 := (hb06.cell (p := ⟨w.heap.size, 4, none⟩) hlt0).trans x4; have H6 := Lib.hid hr6; have HB6 := Lib.hid hb06; obtain ⟨a6, c6, hv6, -, -⟩ := own_form13 hr6; clear hr6 hb6)
    | (go_simp; go_at_call 51; refine (cI.out _ ?_).mono ?_; (exact HB6.out); rintro e w7 ⟨v7, rfl, hr7, hb7⟩; have hb07 : Below W0.heap.size W0 w7 := HB6.out.trans (hb7.mono HB6.out.size); have H7 := Lib.hid hr7; have HB7 := Lib.hid hb7; have HB07 := Lib.hid hb07; have hF7 := (hb07.block _ hlt0).trans HR0.out; have hR7 := (hb07.block _ hlt1).trans HR1.out; obtain ⟨⟨s0, s1, s2, s3, s4⟩, f0, f1, f2, f3, f4⟩ := acells hF7; obtain ⟨a7, c7, hv7, -, -⟩ := own_form13 hr7; clear hr7 hb7 hb07))
  all_goals
    subst hv6 hv7
    (first
      | (obtain ⟨wx, hq⟩ : ∃ W, (w7.setCell ⟨w.heap.size, 3, none⟩ (.slice a6 a.see.length c6)).setCell ⟨w.heap.size, 4, none⟩ (.slice a7 a.above.length c7) = W := ⟨_, rfl⟩; rw [hq]; have hwx : wx = (w7.setCell ⟨w.heap.size, 3, none⟩ (.slice a6 a.see.length c6)).setCell ⟨w.heap.size, 4, none⟩ (.slice a7 a.above.length c7) ∨ wx = (w7.setCell ⟨w.heap.size, 4, none⟩ (.slice a7 a.above.length c7)).setCell ⟨w.heap.size, 3, none⟩ (.slice a6 a.see.length c6) := .inl hq.symm; clear hq)
      | (obtain ⟨wx, hq⟩ : ∃ W, (w7.setCell ⟨w.heap.size, 4, none⟩ (.slice a7 a.above.length c7)).setCell ⟨w.heap.size, 3, none⟩ (.slice a6 a.see.length c6) = W := ⟨_, rfl⟩; rw [hq]; have hwx : wx = (w7.setCell ⟨w.heap.size, 3, none⟩ (.slice a6 a.see.length c6)).setCell ⟨w.heap.size, 4, none⟩ (.slice a7 a.above.length c7) ∨ wx = (w7.setCell ⟨w.heap.size, 4, none⟩ (.slice a7 a.above.length c7)).setCell ⟨w.heap.size, 3, none⟩ (.slice a6 a.see.length c6) := .inr hq.symm; clear hq))
    have hFx : wx.heap[w.heap.size]? = some (.cells #[.int .i64 ai, .int .i64 ak, .string hd, .slice a6 a.see.length c6, .slice a7 a.above.length c7] 31 (0, 0)) := by
      rcases hwx with rfl | rfl <;> simp [World.setCell, Array.getElem?_modify, hF7]
    have hRx : wx.heap[w.heap.size + 1]? = some (.cells #[.int .i64 0, .int .i64 0, .string ⟨#[]⟩, .slice none 0 0, .slice none 0 0] 31 (0, 0)) := by
      rcases hwx with rfl | rfl <;> simpa [World.setCell, Array.getElem?_modify] using hR7
    have hbx : Below w.heap.size w wx := by
      rcases hwx with rfl | rfl
      · exact ((HB0.out.trans (HB07.out.mono HB0.out.size)).setCell (p := ⟨w.heap.size, 3, none⟩) (Nat.le_refl _) _).setCell (p := ⟨w.heap.size, 4, none⟩) (Nat.le_refl _) _
      · exact ((HB0.out.trans (HB07.out.mono HB0.out.size)).setCell (p := ⟨w.heap.size, 4, none⟩) (Nat.le_refl _) _).setCell (p := ⟨w.heap.size, 3, none⟩) (Nat.le_refl _) _
    have hS7 : NR W0.heap.size (.slice a6 a.see.length c6) a.see w7 := H6.out.after HB7.out
    have hI7 : IR W0.heap.size (.slice a7 a.above.length c7) a.above w7 := H7.out.base HB6.out.size
    have hSx : NR W0.heap.size (.slice a6 a.see.length c6) a.see wx := by
      rcases hwx with rfl | rfl
      · exact own_put (own_put hS7 (p := ⟨w.heap.size, 3, none⟩) hlt0 _) (p := ⟨w.heap.size, 4, none⟩) hlt0 _
      · exact own_put (own_put hS7 (p := ⟨w.heap.size, 4, none⟩) hlt0 _) (p := ⟨w.heap.size, 3, none⟩) hlt0 _
    have hIx : IR W0.heap.size (.slice a7 a.above.length c7) a.above wx := by
      rcases hwx with rfl | rfl
      · exact own_put (own_put hI7 (p := ⟨w.heap.size, 3, none⟩) hlt0 _) (p := ⟨w.heap.size, 4, none⟩) hlt0 _
      · exact own_put (own_put hI7 (p := ⟨w.heap.size, 4, none⟩) hlt0 _) (p := ⟨w.heap.size, 3, none⟩) hlt0 _
    have hSz : NR W0.heap.size (.slice a6 a.see.length c6) a.see (setA5 wx (w.heap.size + 1) (.int .i64 ai) (.int .i64 ak) (.string hd) (.slice a6 a.see.length c6) (.slice a7 a.above.length c7)) := own_put5 hSx hlt1 _ _ _ _ _
    have hIz : IR W0.heap.size (.slice a7 a.above.length c7) a.above (setA5 wx (w.heap.size + 1) (.int .i64 ai) (.int .i64 ak) (.string hd) (.slice a6 a.see.length c6) (.slice a7 a.above.length c7)) := own_put5 hIx hlt1 _ _ _ _ _
    have hfin := HQ.out _ _ _ (hSz.base HB0.out.size) (hIz.base HB0.out.size) (au_below hbx (Nat.le_succ _))
    have hres := au_set5 (x0 := .int .i64 ai) (x1 := .int .i64 ak) (x2 := .string hd) (x3 := .slice a6 a.see.length c6) (x4 := .slice a7 a.above.length c7) hRx
    unfold setA5 at hfin hres
    have Hfin := Lib.hid hfin
    have Hres := Lib.hid hres
    obtain ⟨⟨y0, y1, y2, y3, y4⟩, g0, g1, g2, g3, g4⟩ := acells hFx
    obtain ⟨⟨r0, r1, r2, r3, r4⟩, k0, k1, k2, k3, k4⟩ := acells hRx
    have hne : ¬ w.heap.size = w.heap.size + 1 := by omega
    clear hfin hres hSz hIz hSx hIx hS7 hI7 hbx hFx hRx hF7 hR7 hwx s0 s1 s2 s3 s4 f0 f1 f2 f3 f4 x0 x1 x2 x3 x4 z4 HQ H6 H7 HB6 HB7 HB07 hb06 cS cI
    go_wp2
    (try simp only [Exit.inBlock, Exit.then])
    refine bodyPost_ret (results_cell_row rfl _ _ (w.heap.size + 1) _ _ _ _ rfl Hres.out Tryz.underlying31 rfl (by kernel_rfl)) rfl ?_
    exact Hfin.out
end

end Go.Proofs.YtmcolapcmjdoeaaGreatDoor
