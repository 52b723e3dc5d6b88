/- Merged: PI08, PS08. -/
import Derived.Test.YtcnjjdbpcobolaaGreatDoorQ28
import Derived.Test.YtcnjjdbpcobolaaGreatDoorQ29
namespace Go.Proofs.YtcnjjdbpcobolaaGreatDoor

section
open Go.RowKit Go.PlainAid
theorem FR.form {V : World} {B : Nat} {v : Value} {L : List Fld} {w : World} (h : FR V B v L w) : ∃ ao cp, v = .slice ao L.length cp := by
  obtain ⟨us, _, hown, _⟩ := h
  exact own_form hown
theorem FR.lt {V : World} {B : Nat} {v : Value} {L : List Fld} {w : World} (h : FR V B v L w) : ∀ g n c, v = .slice (some ⟨g, 0, none⟩) n c → B ≤ g ∧ g < w.heap.size := by
  obtain ⟨us, _, hown, _⟩ := h
  intro g n c hv
  rcases hown.2 with ⟨h0, _⟩ | ⟨g', cap, cur, hv', hb, hg, _⟩
  · rw [h0] at hv; cases hv
  · rw [hv'] at hv
    obtain ⟨h1, -, -⟩ := Value.slice.inj hv
    obtain rfl : g' = g := by simpa using h1
    exact ⟨hb, (Array.getElem?_eq_some_iff.1 hg).1⟩

set_option maxHeartbeats 16000000 in
set_option maxRecDepth 100000 in
theorem pInsert_any (r : Rec) (u : Value) (w : World) (hE : Env w) (hu : FL u r.fields w) (i : Int) (f : Fld) (x : Value) (hx : QL x f.subs w) (hz : ∀ j, j < f.subs.length → (f.subs.getD j sub0).2.length ≤ 1000000) (hs : r.fields.length ≤ 10000) (q : Rec) (er : Int) (h : insR r i f = (q, er)) :
    Calls Tryz.prog 21 #[RV r u, .int .i64 i, FV f x] w fun e w' => ∃ v, e = .returned (.tuple #[RV q v, .int .i64 er]) ∧ FL v q.fields w' ∧ Below w.heap.size w w' := by
  have HU := Lib.hid hu
  obtain ⟨a, cap, rfl, hcap, hmax⟩ := hu.length
  unfold maxLen at hmax
  obtain ⟨n, hn⟩ : ∃ n, r.fields.length = n := ⟨_, rfl⟩
  unfold insR at h
  rw [hn] at hcap hs HU h ⊢
  have HN := Lib.hid hn
  obtain ⟨Q, hQ⟩ : ∃ Q, (fun (e : Ending) (w' : World) => ∃ v, e = .returned (.tuple #[RV q v, .int .i64 er]) ∧ FL v q.fields w' ∧ Below w.heap.size w w') = Q := ⟨_, rfl⟩
  rw [hQ]
  have HQ : RowKit.Hid (∀ e w', (∃ v, e = .returned (.tuple #[RV q v, .int .i64 er]) ∧ FL v q.fields w' ∧ Below w.heap.size w w') → Q e w') := by rw [← hQ]; exact fun _ _ h => h
  obtain ⟨ee, hee⟩ : ∃ ee, rightI f = ee := ⟨_, rfl⟩
  have cR := Lib.hid (fun W (hb : Below w.heap.size w W) => fRight_any f x W (hE.after hb) (hx.after hb) hz ee hee)
  rw [hee] at h
  unfold RV
  unfold FV at cR ⊢
  have HX := Lib.hid hx
  have hxo := Lib.hid hx.one
  obtain ⟨⟨lg, hlg⟩, ⟨ft, hft⟩, ⟨fi, hfi⟩, ⟨fa, hfa⟩⟩ : (∃ lg, S r.lang = lg) ∧ (∃ t, S f.tag = t) ∧ (∃ t, S f.ind = t) ∧ (∃ t, f.auth = t) := ⟨⟨_, rfl⟩, ⟨_, rfl⟩, ⟨_, rfl⟩, ⟨_, rfl⟩⟩
  rw [hft, hfi, hfa] at cR ⊢
  rw [hlg]
  have HLG := Lib.hid hlg
  have HFT := Lib.hid hft
  have HFI := Lib.hid hfi
  have HFA := Lib.hid hfa
  clear hlg hft hfi hfa
  obtain ⟨W0, hW0⟩ : ∃ W0, ((w.alloc (.cells #[.int .i64 r.id, .int .i64 r.ver, .int .i64 r.kind, .string lg, .slice a n cap] 24)).alloc (.cells #[.string ft, .string fi, x, .int .i64 fa] 35)).alloc (.cells #[.int .i64 0, .int .i64 0, .int .i64 0, .string ⟨#[]⟩, .slice none 0 0] 24) = W0 := ⟨_, rfl⟩
  have b0 : Below w.heap.size w W0 := by rw [← hW0]; exact (((Below.refl w.heap.size w).alloc (Nat.le_refl _) _).alloc (by simp) _).alloc (by simp; omega) _
  have hF : W0.heap[w.heap.size]? = some (.cells #[.int .i64 r.id, .int .i64 r.ver, .int .i64 r.kind, .string lg, .slice a n cap] 24 (0, 0)) := by
    rw [← hW0]
    exact ((Below.heap_alloc _ _ _ (by simp; omega)).trans (Below.heap_alloc _ _ _ (by simp))).trans (heap_alloc_new w _)
  have hG : W0.heap[w.heap.size + 1]? = some (.cells #[.string ft, .string fi, x, .int .i64 fa] 35 (0, 0)) := by
    rw [← hW0]
    refine (Below.heap_alloc _ _ _ (by simp)).trans ?_
    have := heap_alloc_new (w.alloc (.cells #[.int .i64 r.id, .int .i64 r.ver, .int .i64 r.kind, .string lg, .slice a n cap] 24)) (.cells #[.string ft, .string fi, x, .int .i64 fa] 35)
    simpa using this
  have hR : W0.heap[w.heap.size + 2]? = some (.cells #[.int .i64 0, .int .i64 0, .int .i64 0, .string ⟨#[]⟩, .slice none 0 0] 24 (0, 0)) := by
    rw [← hW0]
    have := heap_alloc_new ((w.alloc (.cells #[.int .i64 r.id, .int .i64 r.ver, .int .i64 r.kind, .string lg, .slice a n cap] 24)).alloc (.cells #[.string ft, .string fi, x, .int .i64 fa] 35)) (.cells #[.int .i64 0, .int .i64 0, .int .i64 0, .string ⟨#[]⟩, .slice none 0 0] 24)
    simpa using this
  have hsz0 : W0.heap.size = w.heap.size + 3 := by rw [← hW0]; simp
  have HW0 := Lib.hid hW0
  have HUw := Lib.hid HU.out
  clear hW0 hn hu HU hQ hx hE
  obtain ⟨⟨p0, p1, p2, p3, p4⟩, _⟩ := rec_cells hF
  have y0 : W0.cell? ⟨w.heap.size + 1, 0, none⟩ = some (.string ft) := by rw [Lib.cell_of_heap hG]; rfl
  have y1 : W0.cell? ⟨w.heap.size + 1, 1, none⟩ = some (.string fi) := by rw [Lib.cell_of_heap hG]; rfl
  have y2 : W0.cell? ⟨w.heap.size + 1, 2, none⟩ = some x := by rw [Lib.cell_of_heap hG]; rfl
  have y3 : W0.cell? ⟨w.heap.size + 1, 3, none⟩ = some (.int .i64 fa) := by rw [Lib.cell_of_heap hG]; rfl
  by_cases hbad : i < 0 ∨ (n : Int) < i
  · rw [if_pos hbad] at h
    obtain ⟨rfl, rfl⟩ := Prod.mk.inj h
    obtain ⟨⟨r0, r1, r2, r3, r4⟩, g0, g1, g2, g3, g4⟩ := rec_cells hR
    have hfin := Lib.hid (rec_set (x0 := .int .i64 0) (x1 := .int .i64 0) (x2 := .int .i64 0) (x3 := .string ⟨#[]⟩) (x4 := .slice none 0 0) hR)
    have Fin := Lib.hid (rec_below (b := w.heap.size + 2) b0 (by omega) (.int .i64 0) (.int .i64 0) (.int .i64 0) (.string ⟨#[]⟩) (.slice none 0 0))
    clear hF hR hG hsz0 h cR b0 hee
    by_cases h0 : i < 0
    · have d0 : decide (i < 0) = true := decide_eq_true h0
      clear hbad h0
      go_enter Tryz.func21, Tryz.ntmps21
      go_upto_region 1 with fail
      rw [HW0.out]
      go_wp2
      (try simp only [Exit.inBlock, Exit.then])
      refine bodyPost_ret (results_rec_tmp rfl _ _ (w.heap.size + 2) _ _ _ _ rfl hfin.out Tryz.underlying24 rfl (by kernel_rfl)) rfl ?_
      exact HQ.out _ _ ⟨.slice none 0 0, rfl, FL.zero _, Fin.out⟩
    · have d0 : decide (i < 0) = false := decide_eq_false h0
      have d1 : decide ((n : Int) < i) = true := decide_eq_true (by omega)
      clear hbad h0
      go_enter Tryz.func21, Tryz.ntmps21
      go_upto_region 1 with fail
      rw [HW0.out]
      go_wp2
      (try simp only [Exit.inBlock, Exit.then])
      refine bodyPost_ret (results_rec_tmp rfl _ _ (w.heap.size + 2) _ _ _ _ rfl hfin.out Tryz.underlying24 rfl (by kernel_rfl)) rfl ?_
      exact HQ.out _ _ ⟨.slice none 0 0, rfl, FL.zero _, Fin.out⟩
  rw [if_neg hbad] at h
  obtain ⟨k, rfl⟩ : ∃ k : Nat, i = (k : Int) := ⟨i.toNat, by omega⟩
  have hkn : k ≤ n := by omega
  rw [Int.toNat_natCast] at h
  have d0 : decide ((k : Int) < 0) = false := decide_eq_false (by omega)
  have d1 : decide ((n : Int) < (k : Int)) = false := decide_eq_false (by omega)
  clear hbad
  have c1 := Lib.hid (cR.out W0 b0)
  have hlt0 : w.heap.size < W0.heap.size := by omega
  have hlt1 : w.heap.size + 1 < W0.heap.size := by omega
  have hlt2 : w.heap.size + 2 < W0.heap.size := by omega
  have HF := Lib.hid hF
  have HG := Lib.hid hG
  have HR := Lib.hid hR
  have HS0 := Lib.hid hsz0
  have HB0 := Lib.hid b0
  clear hF hG hR hsz0 b0 cR hee
  go_enter Tryz.func21, Tryz.ntmps21
  go_upto_region 1 with fail
  rw [HW0.out]
  go_wp2_with fail
  refine c1.out.mono ?_
  rintro e w5 ⟨rfl, d⟩
  have hF5 := (d.block _ hlt0).trans HF.out
  have hG5 := (d.block _ hlt1).trans HG.out
  have hR5 := (d.block _ hlt2).trans HR.out
  have hb5 : Below w.heap.size w w5 := HB0.out.trans (d.mono HB0.out.size)
  have hs5 : w.heap.size + 3 ≤ w5.heap.size := by have := d.size; have := HS0.out; omega
  clear p0 p1 p2 p3 p4 y0 y1 y2 y3 d c1 hlt0 hlt1 hlt2
  obtain ⟨⟨p0, p1, p2, p3, p4⟩, _⟩ := rec_cells hF5
  by_cases h0 : ee ≠ 0
  · rw [if_pos h0] at h
    obtain ⟨rfl, rfl⟩ := Prod.mk.inj h
    obtain ⟨⟨r0, r1, r2, r3, r4⟩, g0, g1, g2, g3, g4⟩ := rec_cells hR5
    have hfin := Lib.hid (rec_set (x0 := .int .i64 0) (x1 := .int .i64 0) (x2 := .int .i64 0) (x3 := .string ⟨#[]⟩) (x4 := .slice none 0 0) hR5)
    have Fin := Lib.hid (rec_below (b := w.heap.size + 2) hb5 (by omega) (.int .i64 0) (.int .i64 0) (.int .i64 0) (.string ⟨#[]⟩) (.slice none 0 0))
    have t5 : (ee != 0) = true := by simpa using h0
    clear hF5 hR5 hG5 h h0 hb5
    go_wp2
    (try simp only [Exit.inBlock, Exit.then])
    refine bodyPost_ret (results_rec_tmp rfl _ _ (w.heap.size + 2) _ _ _ _ rfl hfin.out Tryz.underlying24 rfl (by kernel_rfl)) rfl ?_
    exact HQ.out _ _ ⟨.slice none 0 0, rfl, FL.zero _, Fin.out⟩
  obtain rfl : ee = 0 := Decidable.not_not.1 h0
  rw [if_neg h0] at h
  clear h0
  by_cases h64 : 64 ≤ n
  · rw [if_pos h64] at h
    obtain ⟨rfl, rfl⟩ := Prod.mk.inj h
    obtain ⟨⟨r0, r1, r2, r3, r4⟩, g0, g1, g2, g3, g4⟩ := rec_cells hR5
    have hfin := Lib.hid (rec_set (x0 := .int .i64 0) (x1 := .int .i64 0) (x2 := .int .i64 0) (x3 := .string ⟨#[]⟩) (x4 := .slice none 0 0) hR5)
    have Fin := Lib.hid (rec_below (b := w.heap.size + 2) hb5 (by omega) (.int .i64 0) (.int .i64 0) (.int .i64 0) (.string ⟨#[]⟩) (.slice none 0 0))
    have d6 : decide ((64 : Int) ≤ (n : Int)) = true := decide_eq_true (by omega)
    have d7 : 64 ≤ n := h64
    clear hF5 hR5 hG5 h hb5 h64
    go_wp2
    (try simp only [Exit.inBlock, Exit.then])
    refine bodyPost_ret (results_rec_tmp rfl _ _ (w.heap.size + 2) _ _ _ _ rfl hfin.out Tryz.underlying24 rfl (by kernel_rfl)) rfl ?_
    exact HQ.out _ _ ⟨.slice none 0 0, rfl, FL.zero _, Fin.out⟩
  rw [if_neg h64] at h
  obtain ⟨rfl, rfl⟩ := Prod.mk.inj h
  have d6 : decide ((64 : Int) ≤ (n : Int)) = false := decide_eq_false (by omega)
  have HF := Lib.hid hF5
  have HG := Lib.hid hG5
  have HR := Lib.hid hR5
  have HB0 := Lib.hid hb5
  have HS5 := Lib.hid hs5
  have HUf : RowKit.Hid (FL (.slice a r.fields.length cap) r.fields w) := by rw [HN.out]; exact HUw.out
  have cCl := Lib.hid (fun W (hb : Below w5.heap.size w5 W) => fclone_any w r.fields _ W (hb5.trans (hb.mono hb5.size)) HUf.out (by rw [HN.out]; omega))
  rw [HN.out] at cCl
  have cIn := Lib.hid (fun v W bv h1 h2 h3 h4 => finsert_any w w5.heap.size r.fields v W h1 h2 f x bv h3 h4 (by rw [HN.out]; omega) k (by rw [HN.out]; exact hkn))
  have F0 := Lib.hid (Below.refl w5.heap.size w5).drew
  have F1 := Lib.hid ((Below.refl w5.heap.size w5).drew.alloc (Nat.le_refl _) (.cells #[.string ft, .string fi, x, .int .i64 fa] 35))
  have hlt0 : w.heap.size < w5.heap.size := by omega
  have hlt1 : w.heap.size + 1 < w5.heap.size := by omega
  have hlt2 : w.heap.size + 2 < w5.heap.size := by omega
  have HFd := Lib.hid (show f.auth = fa ∧ S f.tag = ft ∧ S f.ind = fi from ⟨HFA.out, HFT.out, HFI.out⟩)
  have HOneN : RowKit.Hid (∀ W : World, OneF w W.heap.size f x (W.alloc (.cells #[.string ft, .string fi, x, .int .i64 fa] 35))) := by
    intro W
    refine ⟨?_, HX.out⟩
    rw [HFd.out.1, HFd.out.2.1, HFd.out.2.2]
    exact heap_alloc_new W _
  have HOneB : RowKit.Hid ((w5.alloc (.cells #[.string ft, .string fi, x, .int .i64 fa] 35)).drew.heap[w5.heap.size]? = some (.cells #[.string (S f.tag), .string (S f.ind), x, .int .i64 f.auth] 35 (0, 0))) := (HOneN.out w5).hg
  have y0 : w5.cell? ⟨w.heap.size + 1, 0, none⟩ = some (.string ft) := by rw [Lib.cell_of_heap hG5]; rfl
  have y1 : w5.cell? ⟨w.heap.size + 1, 1, none⟩ = some (.string fi) := by rw [Lib.cell_of_heap hG5]; rfl
  have y2 : w5.cell? ⟨w.heap.size + 1, 2, none⟩ = some x := by rw [Lib.cell_of_heap hG5]; rfl
  have y3 : w5.cell? ⟨w.heap.size + 1, 3, none⟩ = some (.int .i64 fa) := by rw [Lib.cell_of_heap hG5]; rfl
  have p4A := (F1.out.cell (p := ⟨w.heap.size, 4, none⟩) hlt0).trans p4
  clear hF5 hG5 hR5 hb5 hs5 h
  go_upto_region 8 with fail
  go_region_law (first
    | (go_simp; go_at_call 46; refine (cCl.out _ ?_).mono ?_; (first | exact F0.out | exact F1.out); rintro e w6 ⟨v6, rfl, hfr6, hb6⟩; have HLt6 := Lib.hid hfr6.lt; have HBl6 := Lib.hid hb6; have hb56 : Below w5.heap.size w5 w6 := (by first | exact F0.out.trans (hb6.mono F0.out.size) | exact F1.out.trans (hb6.mono F1.out.size)); have z0 := (hb56.cell (p := ⟨w.heap.size + 1, 0, none⟩) hlt1).trans y0; have z1 := (hb56.cell (p := ⟨w.heap.size + 1, 1, none⟩) hlt1).trans y1; have z2 := (hb56.cell (p := ⟨w.heap.size + 1, 2, none⟩) hlt1).trans y2; have z3 := (hb56.cell (p := ⟨w.heap.size + 1, 3, none⟩) hlt1).trans y3; have HFr6 := Lib.hid (hfr6.base (show w5.heap.size ≤ _ from (by first | exact F0.out.size | exact F1.out.size))); have HB6 := Lib.hid hb56; clear hfr6)
    | (go_simp; go_at_call 45; refine (cIn.out _ _ _ ?_ ?_ ?_ ?_).mono ?_; (first | exact HFr6.out | exact HFr6.out.after ((Below.refl _ _).alloc (Nat.le_refl _) _)); (first | exact HB6.out.size | exact Nat.le_trans HB6.out.size (by simp)); (first | exact HOneN.out _ | exact ⟨(HBl6.out.block _ (by simp)).trans HOneB.out, HX.out⟩); (intro g n c hv; have hlt := HLt6.out g n c hv; simp at hlt; omega); rintro e w7 ⟨v7, rfl, hfr7, hb7⟩; have hb57 : Below w5.heap.size w5 w7 := (by first | exact HB6.out.trans hb7 | exact (HB6.out.trans ((Below.refl w6.heap.size w6).alloc (Nat.le_refl _) _ |>.mono HB6.out.size)).trans hb7); have hF7 := (hb57.block _ hlt0).trans HF.out; have hR7 := (hb57.block _ hlt2).trans HR.out; have HFr7 := Lib.hid hfr7; have HB7 := Lib.hid hb57; obtain ⟨ao7, cp7, hv7⟩ := hfr7.form; subst hv7; obtain ⟨⟨s0, s1, s2, s3, s4⟩, f0, f1, f2, f3, f4⟩ := rec_cells hF7; clear hfr7 hb7 hb57))
  all_goals
    obtain ⟨l7, hl7⟩ : ∃ l7, (insL r.fields k f).length = l7 := ⟨_, rfl⟩
    have hfr7 := HFr7.out
    rw [hl7] at hfr7 ⊢
    obtain ⟨w8, hw8⟩ : ∃ w8, w7.setCell ⟨w.heap.size, 4, none⟩ (.slice ao7 l7 cp7) = w8 := ⟨_, rfl⟩
    have hF8 : w8.heap[w.heap.size]? = some (.cells #[.int .i64 r.id, .int .i64 r.ver, .int .i64 r.kind, .string lg, .slice ao7 l7 cp7] 24 (0, 0)) := by
      rw [← hw8]
      simp [World.setCell, Array.getElem?_modify, hF7]
    have hR8 : w8.heap[w.heap.size + 2]? = some (.cells #[.int .i64 0, .int .i64 0, .int .i64 0, .string ⟨#[]⟩, .slice none 0 0] 24 (0, 0)) := by
      rw [← hw8]
      simpa [World.setCell, Array.getElem?_modify] using hR7
    have hb8 : Below w.heap.size w w8 := by
      rw [← hw8]
      exact (HB0.out.trans (HB7.out.mono HB0.out.size)).setCell (p := ⟨w.heap.size, 4, none⟩) (Nat.le_refl _) _
    have hfr8 : FR w w5.heap.size (.slice ao7 l7 cp7) (insL r.fields k f) w8 := by
      rw [← hw8]
      exact hfr7.put (p := ⟨w.heap.size, 4, none⟩) hlt0 _
    rw [hw8]
    obtain ⟨⟨t0, t1, t2, t3, t4⟩, _⟩ := rec_cells hF8
    obtain ⟨⟨r0, r1, r2, r3, r4⟩, g0, g1, g2, g3, g4⟩ := rec_cells hR8
    have hfin := Lib.hid (rec_set (x0 := .int .i64 r.id) (x1 := .int .i64 r.ver) (x2 := .int .i64 r.kind) (x3 := .string lg) (x4 := .slice ao7 l7 cp7) hR8)
    have Fin := Lib.hid (rec_below (b := w.heap.size + 2) hb8 (by omega) (.int .i64 r.id) (.int .i64 r.ver) (.int .i64 r.kind) (.string lg) (.slice ao7 l7 cp7))
    have hql := Lib.hid (rec_row hfr8 hlt2 (.int .i64 r.id) (.int .i64 r.ver) (.int .i64 r.kind) (.string lg) (.slice ao7 l7 cp7))
    clear hF7 hR7 hF8 hR8 hfr7 hfr8 hb8 hw8 hl7 p0 p1 p2 p3 p4 s0 s1 s2 s3 s4
    go_wp2
    (try simp only [Exit.inBlock, Exit.then])
    refine bodyPost_ret (results_rec_tmp rfl _ _ (w.heap.size + 2) _ _ _ _ rfl hfin.out Tryz.underlying24 rfl (by kernel_rfl)) rfl ?_
    refine HQ.out _ _ ⟨.slice ao7 l7 cp7, ?_, ?_, Fin.out⟩
    · unfold RV
      rw [HLG.out]
      rfl
    · exact hql.out.fl Fin.out
end

section
open Go.RowKit Go.PlainAid Go.Sort Go.Lib
def slF (x : FU) : Value := .slice x.2.1 x.2.2.1 x.2.2.2
theorem cellsF_enc : ∀ M : List FU, cellsF (M.map Prod.fst) (M.map slF) = M.flatMap encP
  | [] => rfl
  | x :: t => by
    have ih := cellsF_enc t
    simp only [List.map_cons, cellsF, ih, List.flatMap_cons]
    rfl
/-- Fields and the slices of their subfields. -/
theorem pairs : ∀ (L : List Fld) (us : List Value) (V : World), us.length = L.length → (∀ i, i < L.length → QL (us.getD i .nilIface) (L.getD i fd0).subs V) →
    ∃ M : List FU, M.map Prod.fst = L ∧ M.map slF = us ∧ ∀ x ∈ M, QL (slF x) x.1.subs V
  | [], [], V, _, _ => ⟨[], rfl, rfl, fun x hx => by cases hx⟩
  | [], u :: us, V, h, _ => by simp at h
  | f :: t, [], V, h, _ => by simp at h
  | f :: t, u :: us, V, h, hq => by
    obtain ⟨M, h1, h2, h3⟩ := pairs t us V (by simpa using h) (fun i hi => by simpa using hq (i + 1) (by simpa using hi))
    have h0 : QL u f.subs V := by simpa using hq 0 (by simp)
    obtain ⟨a, cap, he, hrest⟩ := id h0
    refine ⟨(f, a, f.subs.length, cap) :: M, by rw [List.map_cons, h1], ?_, fun x hx => ?_⟩
    · rw [List.map_cons, h2, he]
      rfl
    · rcases List.mem_cons.1 hx with rfl | hx
      · show QL (.slice a f.subs.length cap) f.subs V
        rw [← he]
        exact h0
      · exact h3 x hx
theorem flat_one (M : List FU) (j : Nat) (hj : j < M.length * 4) : (M.flatMap encP)[j]? = some ((flatK encP 4 M.toArray)[j]!) := by
  rw [get_flatK _ _ _ _ (by simpa using hj)]
  induction M generalizing j with
  | nil => simp at hj
  | cons x t ih =>
    have e : (x :: t).flatMap encP = encP x ++ t.flatMap encP := rfl
    have hx : (encP x).length = 4 := rfl
    rw [e]
    rcases Nat.lt_or_ge j 4 with h | h
    · rw [List.getElem?_append_left (by rw [hx]; exact h), Nat.div_eq_of_lt h, Nat.mod_eq_of_lt h]
      have : (x :: t).toArray[0]! = x := rfl
      rw [this, List.getElem?_eq_getElem (by rw [hx]; exact h), getElem!_pos (encP x) j (by rw [hx]; exact h)]
    · obtain ⟨m, rfl⟩ : ∃ m, j = m + 4 := ⟨j - 4, by omega⟩
      rw [List.getElem?_append_right (by rw [hx]; omega), hx, Nat.add_sub_cancel, ih m (by simp at hj; omega), show (m + 4) / 4 = m / 4 + 1 by omega, show (m + 4) % 4 = m % 4 by omega]
      have hm : m / 4 < t.length := by simp at hj; omega
      rw [getElem!_pos (x :: t).toArray (m / 4 + 1) (by simp; omega), getElem!_pos t.toArray (m / 4) (by simpa using hm)]
      simp
theorem len_enc (M : List FU) : (M.flatMap encP).length = M.length * 4 := by
  induction M with
  | nil => rfl
  | cons x t ih => rw [List.flatMap_cons, List.length_append, ih, List.length_cons]; show 4 + _ = _; omega
/-- A row of the call's own holds what the sort asks. -/
theorem RawF.holds {V w : World} {B g cap : Nat} {cs us : List Value} {L : List Fld} (h : RawF V B g cap cs us L w) (M : List FU) (h1 : M.map Prod.fst = L) (h2 : M.map slF = us) : HoldsK encP 4 w g 0 M.toArray := by
  have hl : M.length = L.length := by rw [← h1, List.length_map]
  intro j hj
  rw [size_flatK, List.size_toArray] at hj
  rw [Nat.zero_add]
  refine ⟨?_, Lib.frozen_of_heap h.hg j⟩
  refine h.at j _ ?_
  rw [← h1, ← h2, cellsF_enc]
  exact flat_one M j hj
/-- .. and what the sort leaves is such a row. -/
theorem RawF.sorted {V w W : World} {B g cap : Nat} {cs us : List Value} {L : List Fld} (h : RawF V B g cap cs us L w) (M N : List FU) (h1 : M.map Prod.fst = L) (hq : ∀ x ∈ M, QL (slF x) x.1.subs V) (hk : Keep keyP N M) (hS : SP4 w g N W) (hBw : B ≤ w.heap.size) :
    FR V B (.slice (some ⟨g, 0, none⟩) L.length cap) (N.map Prod.fst) W ∧ Below B w W := by
  obtain ⟨n, os, rfl⟩ := hS
  have hl : N.length = L.length := by rw [hk.len, ← h1, List.length_map]
  have hlt : g < w.heap.size := (Array.getElem?_eq_some_iff.1 h.hg).1
  have hheap : (sortWorldK encP 4 w g 0 n N.toArray os).heap[g]? = some (.cells (putCells id 0 (flatK encP 4 N.toArray) cs.toArray) 35 (0, 0)) := by
    unfold sortWorldK putRowK
    rw [heap_grow_old _ _ (by simpa [putRow, mapBlock, Sort.ahead] using hlt)]
    simp [putRow, mapBlock, Sort.ahead, Array.getElem?_modify, h.hg, onCells]
  have hfst : (N.map Prod.fst).length = L.length := by rw [List.length_map, hl]
  refine ⟨?_, ?_⟩
  · rw [← hfst]
    refine RawF.fr (cs := (putCells id 0 (flatK encP 4 N.toArray) cs.toArray).toList) (us := N.map slF) ⟨by simp, h.hB, by simpa using hheap, by rw [hfst]; exact h.hc, h.hm, by simp [putCells, h.hl], ?_, fun i hi => ?_⟩
    · rw [hfst, cellsF_enc]
      apply List.ext_getElem?
      intro j
      rcases Nat.lt_or_ge j (L.length * 4) with hj | hj
      · rw [List.getElem?_take_of_lt hj, flat_one N j (by omega)]
        have hjc : j < cs.length := by have := h.hc; rw [h.hl]; omega
        simp only [putCells, Array.toList_mapIdx, List.getElem?_mapIdx, List.getElem?_eq_getElem hjc, Option.map_some, size_flatK, List.size_toArray, Nat.zero_add, Nat.sub_zero]
        rw [if_pos ⟨Nat.zero_le _, by omega⟩]
        rfl
      · rw [List.getElem?_eq_none (by rw [List.length_take]; omega), List.getElem?_eq_none (by rw [len_enc]; omega)]
    · rw [List.length_map] at hi
      rw [List.getD_eq_getElem?_getD, List.getD_eq_getElem?_getD, List.getElem?_map, List.getElem?_map, List.getElem?_eq_getElem hi]
      exact hq _ ((hk.mem _).1 (List.getElem_mem hi))
  · have hg : w.grownBy (sortWorldK encP 4 w g 0 n N.toArray os) (some g) := by
      unfold sortWorldK putRowK
      refine ⟨rfl, rfl, rfl, by simp, fun k hk hne => ?_⟩
      rw [heap_grow_old _ _ (by simpa using hk)]
      have : g ≠ k := fun e => hne (by rw [e])
      simp [putRow, mapBlock, Sort.ahead, Array.getElem?_modify, this]
    exact (Below.refl B w).grown hg hBw (fun k hk => by cases hk; exact h.hB)
theorem asc_fst (N : List FU) : Asc keyP N → Asc Fld.tag (N.map Prod.fst) := by
  intro h
  unfold Asc at h ⊢
  rw [List.pairwise_map]
  exact h
theorem stab_fst {N M : List FU} (h : Stab keyP N M) : Stab Fld.tag (N.map Prod.fst) (M.map Prod.fst) := by
  refine ⟨⟨by rw [List.length_map, List.length_map, h.keep.len], fun t => ?_⟩, asc_fst N h.asc⟩
  have := congrArg (List.map Prod.fst) (h.keep.same t)
  unfold pick at this ⊢
  rw [List.filter_map, List.filter_map]
  exact this
/-- slices.SortStableFunc of no fields. -/
theorem sortNone_any (a : Option Addr) (c : Nat) (w : World) :
    Calls Tryz.prog 49 #[.slice a 0 c, .func (.func 50) #[] #[]] w fun e w' => e = .returned (.tuple #[]) ∧ w' = w := by
  have HI : ∀ W, Calls Tryz.prog 103 #[.slice a 0 c, .int .i64 0, .int .i64 0, .func (.func 50) #[] #[]] W fun e w' => e = .returned (.tuple #[]) ∧ w' = W := by
    intro W
    go_enter Tryz.func103, Tryz.ntmps103
    go_wp2
    go_loopw [8] (fun va wr => va = .int .i64 1 ∧ wr = W) (fun _ _ => 0)
    case atStart => exact ⟨by go_num, rfl⟩
    case round =>
      obtain ⟨rfl, rfl⟩ := hrel
      go_wp2
      go_end0
      exact ⟨rfl, rfl⟩
  have HS : Calls Tryz.prog 76 #[.slice a 0 c, .int .i64 0, .func (.func 50) #[] #[]] w fun e w' => e = .returned (.tuple #[]) ∧ w' = w := by
    have HI2 := Lib.hid (HI w)
    go_enter Tryz.func76, Tryz.ntmps76
    go_wp2
    go_loopw [7, 8] (fun va vb wr => va = .int .i64 0 ∧ vb = .int .i64 20 ∧ wr = w) (fun _ _ _ => 0)
    case atStart => exact ⟨rfl, by go_num, rfl⟩
    case round =>
      obtain ⟨rfl, rfl, rfl⟩ := hrel
      go_wp2_with fail
      refine (HI2.out).mono ?_
      rintro e w2 ⟨rfl, rfl⟩
      go_wp2
      go_loopw [6] (fun vb wr => vb = .int .i64 20 ∧ wr = w2) (fun _ _ => 0)
      case atStart => exact ⟨rfl, rfl⟩
      case round =>
        obtain ⟨rfl, rfl⟩ := hrel
        go_wp2
        go_end0
        exact ⟨rfl, rfl⟩
  have HS2 := Lib.hid HS
  go_enter Tryz.func49, Tryz.ntmps49
  go_wp2_with fail
  refine (HS2.out).mono ?_
  rintro e w2 ⟨rfl, rfl⟩
  go_wp2
  go_end0
  exact ⟨rfl, rfl⟩
/-- slices.SortStableFunc of a row of the call's own. -/
theorem sortF_any (V : World) (B : Nat) (L : List Fld) (v : Value) (w : World) (h : FR V B v L w) (hBw : B ≤ w.heap.size) (hs : L.length ≤ 100000) :
    Calls Tryz.prog 49 #[v, .func (.func 50) #[] #[]] w fun e w' => e = .returned (.tuple #[]) ∧ ∃ N, Stab Fld.tag N L ∧ FR V B v N w' ∧ Below B w w' := by
  rcases Nat.eq_zero_or_pos L.length with h0 | hp
  · obtain ⟨ao, cp, rfl⟩ := h.form
    obtain rfl : L = [] := List.eq_nil_of_length_eq_zero h0
    refine (sortNone_any ao cp w).mono ?_
    rintro e w' ⟨rfl, rfl⟩
    exact ⟨rfl, [], Stab.refl (by simp [Asc]), h, Below.refl _ _⟩
  · obtain ⟨g, cap, cs, us, rfl, hr⟩ := h.raw hp
    obtain ⟨M, h1, h2, h3⟩ := pairs L us V hr.ul hr.hq
    have hl : M.length = L.length := by rw [← h1, List.length_map]
    have hH := hr.holds M h1 h2
    have hlt : g < w.heap.size := (Array.getElem?_eq_some_iff.1 hr.hg).1
    refine (sortStable_any w g L.length cap M.toArray (by simpa using hl) hs ⟨fun _ => rfl, encP_one, hH, hlt⟩ M hl w (SWK.start hH)).mono ?_
    rintro e w' ⟨rfl, N, hN, hS⟩
    obtain ⟨g1, g2⟩ := hr.sorted M N h1 h3 hN.keep hS hBw
    refine ⟨rfl, N.map Prod.fst, ?_, g1, g2⟩
    rw [← h1]
    exact stab_fst hN

set_option maxHeartbeats 8000000 in
set_option maxRecDepth 100000 in
theorem pSorted_any (r : Rec) (u : Value) (w : World) (hu : FL u r.fields w) (hs : r.fields.length ≤ 100000) :
    Calls Tryz.prog 25 #[RV r u] w fun e w' => ∃ v N, e = .returned (RV { r with fields := N } v) ∧ Stab Fld.tag N r.fields ∧ FL v N w' ∧ Below w.heap.size w w' := by
  have HU := Lib.hid hu
  obtain ⟨a, cap, rfl, hcap, hmax⟩ := hu.length
  unfold maxLen at hmax
  obtain ⟨n, hn⟩ : ∃ n, r.fields.length = n := ⟨_, rfl⟩
  rw [hn] at hcap hs HU ⊢
  have HN := Lib.hid hn
  obtain ⟨Q, hQ⟩ : ∃ Q, (fun (e : Ending) (w' : World) => ∃ v N, e = .returned (RV { r with fields := N } v) ∧ Stab Fld.tag N r.fields ∧ FL v N w' ∧ Below w.heap.size w w') = Q := ⟨_, rfl⟩
  rw [hQ]
  have HQ : RowKit.Hid (∀ e w', (∃ v N, e = .returned (RV { r with fields := N } v) ∧ Stab Fld.tag N r.fields ∧ FL v N w' ∧ Below w.heap.size w w') → Q e w') := by rw [← hQ]; exact fun _ _ h => h
  unfold RV
  obtain ⟨lg, hlg⟩ : ∃ lg, S r.lang = lg := ⟨_, rfl⟩
  rw [hlg]
  have HLG := Lib.hid hlg
  obtain ⟨W0, hW0⟩ : ∃ W0, (w.alloc (.cells #[.int .i64 r.id, .int .i64 r.ver, .int .i64 r.kind, .string lg, .slice a n cap] 24)).alloc (.cells #[.int .i64 0, .int .i64 0, .int .i64 0, .string ⟨#[]⟩, .slice none 0 0] 24) = W0 := ⟨_, rfl⟩
  have b0 : Below w.heap.size w W0 := by rw [← hW0]; exact ((Below.refl w.heap.size w).alloc (Nat.le_refl _) _).alloc (by simp) _
  have hF : W0.heap[w.heap.size]? = some (.cells #[.int .i64 r.id, .int .i64 r.ver, .int .i64 r.kind, .string lg, .slice a n cap] 24 (0, 0)) := by
    rw [← hW0]
    exact (Below.heap_alloc _ _ _ (by simp)).trans (heap_alloc_new w _)
  have hR : W0.heap[w.heap.size + 1]? = some (.cells #[.int .i64 0, .int .i64 0, .int .i64 0, .string ⟨#[]⟩, .slice none 0 0] 24 (0, 0)) := by
    rw [← hW0]
    have := heap_alloc_new (w.alloc (.cells #[.int .i64 r.id, .int .i64 r.ver, .int .i64 r.kind, .string lg, .slice a n cap] 24)) (.cells #[.int .i64 0, .int .i64 0, .int .i64 0, .string ⟨#[]⟩, .slice none 0 0] 24)
    simpa using this
  have hsz0 : W0.heap.size = w.heap.size + 2 := by rw [← hW0]; simp
  have HW0 := Lib.hid hW0
  have cC := Lib.hid (fclone_any w r.fields _ W0 b0 HU.out (by rw [hn]; exact hs))
  have cS := Lib.hid (fun v W h hb => sortF_any w W0.heap.size r.fields v W h hb (by rw [hn]; exact hs))
  have HF := Lib.hid hF
  have HR := Lib.hid hR
  have HS0 := Lib.hid hsz0
  have HB0 := Lib.hid b0
  obtain ⟨⟨p0, p1, p2, p3, p4⟩, _⟩ := rec_cells hF
  have hlt0 : w.heap.size < W0.heap.size := by omega
  have hlt1 : w.heap.size + 1 < W0.heap.size := by omega
  clear hF hR hsz0 b0 hW0 hn hu HU hQ hlg
  go_enter Tryz.func25, Tryz.ntmps25
  go_upto_region 1 with fail
  rw [HW0.out]
  go_wp2_with fail
  refine (cC.out).mono ?_
  rintro e w1 ⟨v1, rfl, hfr1, hb1⟩
  obtain ⟨ao, cp, rfl⟩ := hfr1.form
  rw [HN.out] at hfr1 ⊢
  have HFR1 := Lib.hid hfr1
  have HB1 := Lib.hid hb1
  have hF1 := (hb1.block _ hlt0).trans HF.out
  have hR1 := (hb1.block _ hlt1).trans HR.out
  obtain ⟨⟨s0, s1, s2, s3, s4⟩, f0, f1, f2, f3, f4⟩ := rec_cells hF1
  obtain ⟨w2, hw2⟩ : ∃ w2, w1.setCell ⟨w.heap.size, 4, none⟩ (.slice ao n cp) = w2 := ⟨_, rfl⟩
  have hF2 : w2.heap[w.heap.size]? = some (.cells #[.int .i64 r.id, .int .i64 r.ver, .int .i64 r.kind, .string lg, .slice ao n cp] 24 (0, 0)) := by
    rw [← hw2]
    simp [World.setCell, Array.getElem?_modify, hF1]
  have hR2 : w2.heap[w.heap.size + 1]? = some (.cells #[.int .i64 0, .int .i64 0, .int .i64 0, .string ⟨#[]⟩, .slice none 0 0] 24 (0, 0)) := by
    rw [← hw2]
    simpa [World.setCell, Array.getElem?_modify] using hR1
  have hb2 : Below w.heap.size w w2 := by
    rw [← hw2]
    exact (HB0.out.trans (hb1.mono HB0.out.size)).setCell (p := ⟨w.heap.size, 4, none⟩) (Nat.le_refl _) _
  have hfr2 : FR w W0.heap.size (.slice ao n cp) r.fields w2 := by
    rw [← hw2]
    exact hfr1.put (p := ⟨w.heap.size, 4, none⟩) hlt0 _
  have hs2 : W0.heap.size ≤ w2.heap.size := by
    rw [← hw2]
    simpa using hb1.size
  have HW2 := Lib.hid hw2
  have HF2 := Lib.hid hF2
  have HR2 := Lib.hid hR2
  have HB2 := Lib.hid hb2
  have cS2 := Lib.hid (cS.out _ w2 hfr2 hs2)
  obtain ⟨⟨t0, t1, t2, t3, t4⟩, _⟩ := rec_cells hF2
  clear hF1 hR1 hF2 hR2 hfr1 hfr2 hb1 hb2 hw2 p0 p1 p2 p3 p4
  go_upto_region 2 with fail
  rw [HW2.out]
  go_wp2_with fail
  refine (cS2.out).mono ?_
  rintro e w3 ⟨rfl, N, hN, hfr3, hb3⟩
  have HStab := Lib.hid hN
  have hF3 := (hb3.block _ hlt0).trans HF2.out
  have hR3 := (hb3.block _ hlt1).trans HR2.out
  have hbw := HB2.out.trans (hb3.mono (Nat.le_of_lt hlt0))
  clear t0 t1 t2 t3 t4 s0 s1 s2 s3 s4 f0 f1 f2 f3 f4
  obtain ⟨⟨t0, t1, t2, t3, t4⟩, _⟩ := rec_cells hF3
  obtain ⟨⟨r0, r1, r2, r3, r4⟩, g0, g1, g2, g3, g4⟩ := rec_cells hR3
  have hfin := Lib.hid (rec_set (x0 := .int .i64 r.id) (x1 := .int .i64 r.ver) (x2 := .int .i64 r.kind) (x3 := .string lg) (x4 := .slice ao n cp) hR3)
  have Fin := Lib.hid (rec_below (b := w.heap.size + 1) hbw (Nat.le_succ _) (.int .i64 r.id) (.int .i64 r.ver) (.int .i64 r.kind) (.string lg) (.slice ao n cp))
  have hql := Lib.hid (rec_row hfr3 hlt1 (.int .i64 r.id) (.int .i64 r.ver) (.int .i64 r.kind) (.string lg) (.slice ao n cp))
  clear hF3 hR3 hfr3 hb3 hbw
  go_wp2
  (try simp only [Exit.inBlock, Exit.then])
  refine bodyPost_ret (results_cell_row rfl _ _ (w.heap.size + 1) _ _ _ _ rfl hfin.out Tryz.underlying24 rfl (by kernel_rfl)) rfl ?_
  refine HQ.out _ _ ⟨.slice ao n cp, N, ?_, HStab.out, ?_, Fin.out⟩
  · unfold RV
    rw [HLG.out]
  · exact hql.out.fl Fin.out
end

end Go.Proofs.YtcnjjdbpcobolaaGreatDoor
