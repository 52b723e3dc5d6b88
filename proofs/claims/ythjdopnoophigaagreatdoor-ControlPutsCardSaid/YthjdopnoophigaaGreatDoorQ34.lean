/- Merged: KR14. -/
import Derived.Test.YthjdopnoophigaaGreatDoorQ27
import Derived.Test.YthjdopnoophigaaGreatDoorQ32
import Derived.Test.YthjdopnoophigaaGreatDoorQ33
namespace Go.Proofs.YthjdopnoophigaaGreatDoor

section
open Go.RowKit Go.PlainAid
set_option maxHeartbeats 16000000 in
set_option maxRecDepth 100000 in
theorem linkF_any (la : Value) (L : List Au) (bl : Nat) (f : Fld) (v : Value) (W00 : World) (hE : Env W00) (hA : AL la L W00) (hbn : bnd L) (hr : rightA L = 0) (hq : QL v f.subs W00) (hok : okF f)
    (hh : looseX f = true → validT (headX f) = true ∧ (headX f).length ≤ 1000) (hl : W00.heap[bl]? = some (.cells #[la] 57 (0, 0))) :
    Calls Tryz.prog 61 #[FV f v, .pointer (some ⟨bl, 0, none⟩)] W00 fun e W' => ∃ u', e = .returned (FV (linkX L f) u') ∧ Res14 W00 v f (linkX L f) u' W' ∧ Below W00.heap.size W00 W' := by
  obtain ⟨W0, hW0⟩ : ∃ W0, (W00.alloc (.cells #[.string (S f.tag), .string (S f.ind), v, .int .i64 f.auth] 24)).alloc (.cells #[.string ⟨#[]⟩, .string ⟨#[]⟩, .slice none 0 0, .int .i64 0] 24) = W0 := ⟨_, rfl⟩
  have b0 : Below W00.heap.size W00 W0 := by rw [← hW0]; exact ((Below.refl W00.heap.size W00).alloc (Nat.le_refl _) _).alloc (by simp) _
  have hsz0 : W0.heap.size = W00.heap.size + 2 := by rw [← hW0]; simp
  have hF : W0.heap[W00.heap.size]? = some (.cells #[.string (S f.tag), .string (S f.ind), v, .int .i64 f.auth] 24 (0, 0)) := by
    rw [← hW0]
    exact (Below.heap_alloc _ _ _ (by simp)).trans (heap_alloc_new W00 _)
  have hR : W0.heap[W00.heap.size + 1]? = some (.cells #[.string ⟨#[]⟩, .string ⟨#[]⟩, .slice none 0 0, .int .i64 0] 24 (0, 0)) := by
    rw [← hW0]
    have := heap_alloc_new (W00.alloc (.cells #[.string (S f.tag), .string (S f.ind), v, .int .i64 f.auth] 24)) (.cells #[.string ⟨#[]⟩, .string ⟨#[]⟩, .slice none 0 0, .int .i64 0] 24)
    simpa using this
  have kl : W0.cell? ⟨bl, 0, none⟩ = some la := by rw [Lib.cell_of_heap ((b0.block bl (Array.getElem?_eq_some_iff.1 hl).1).trans hl)]; rfl
  have HR := Lib.hid (fun (W : World) (h : Below W0.heap.size W0 W) => (h.block (W00.heap.size + 1) (by omega)).trans hR)
  have HB := Lib.hid (fun (W : World) (h : Below W0.heap.size W0 W) => b0.trans (h.mono b0.size))
  obtain ⟨⟨p0, p1, p2, p3⟩, -⟩ := fcells4 hF
  have HQ := Lib.hid (fun (W : World) (h : Below W00.heap.size W00 W) => hq.after h)
  have cC := Lib.hid (linked_any la L f v W0 (hE.after b0) (hA.after b0) hbn hr (hq.after b0) hok hh)
  have HW0 := Lib.hid hW0
  have HSz := Lib.hid hsz0
  obtain ⟨va, vc, hla, -, -⟩ := hA.length
  obtain ⟨au, cp, hv, -, -⟩ := hq.length
  obtain ⟨g, hg⟩ : ∃ g, linkX L f = g := ⟨_, rfl⟩
  rw [hg] at cC ⊢
  obtain ⟨Q, hQ⟩ : ∃ Q, (fun (e : Ending) (W' : World) => ∃ u', e = .returned (FV g u') ∧ Res14 W00 v f g u' W' ∧ Below W00.heap.size W00 W') = Q := ⟨_, rfl⟩
  rw [hQ]
  have HQQ : RowKit.Hid (∀ u' w6, Res14 W0 v f g u' w6 → Below W0.heap.size W0 w6 → (∃ ao n cp, u' = .slice ao n cp) ∧ Q (.returned (.agg #[.string (S g.tag), .string (S g.ind), u', .int .i64 g.auth])) (setF4 w6 (W00.heap.size + 1) (.string (S g.tag)) (.string (S g.ind)) u' (.int .i64 g.auth))) := by
    intro u' w6 h6 hb6
    have hbF := setF4_below (HB.out w6 hb6) (Nat.le_succ _) (.string (S g.tag)) (.string (S g.ind)) u' (.int .i64 g.auth)
    refine ⟨?_, ?_⟩
    · rcases h6 with ⟨rfl, _⟩ | h
      · exact ⟨_, _, _, hv⟩
      · obtain ⟨ao, c6, e, -, -⟩ := h.here.length
        exact ⟨_, _, _, e⟩
    · rw [← hQ]
      refine ⟨u', rfl, ?_, hbF⟩
      rcases h6 with h | h
      · exact .inl h
      · exact .inr ((h.on (Nat.le_of_eq (setF4_size _ _ _ _ _ _).symm) (fun i hi _ => setF4_other _ _ _ _ i (by omega))).mono (by omega))
  clear hQ
  unfold FV at cC ⊢
  subst hla hv
  clear hW0 hF hR b0 hq hE hA hok hh hl hg hsz0
  generalize hsb : f.subs = sb at *
  generalize sb.length = n at *
  generalize L.length = m at *
  generalize S f.tag = t0 at *
  generalize S f.ind = t1 at *
  generalize f.auth = t3 at *
  go_enter Tryz.func61, Tryz.ntmps61
  go_upto_region 1 with fail
  rw [HW0.out]
  clear HW0
  go_wp2_with fail
  refine cC.out.mono ?_
  rintro e w6 ⟨v', rfl, hn6, hb6⟩
  have hR6 := HR.out w6 hb6
  obtain ⟨⟨r0, r1, r2, r3⟩, s0, s1, s2, s3⟩ := fcells4 hR6
  obtain ⟨⟨ao, m6, c6, rfl⟩, hgood⟩ := HQQ.out v' w6 hn6 hb6
  have hfin := setF4_heap (x0 := .string (S g.tag)) (x1 := .string (S g.ind)) (x2 := .slice ao m6 c6) (x3 := .int .i64 g.auth) hR6
  unfold setF4 at hfin hgood
  have HFin := Lib.hid hfin
  have HG := Lib.hid hgood
  clear hfin hgood hn6 hb6 hR6 HQQ cC HQ HR HB kl
  generalize S g.tag = g0 at *
  generalize S g.ind = g1 at *
  generalize g.auth = g3 at *
  go_wp2
  (try simp only [Exit.inBlock, Exit.then])
  refine bodyPost_ret (results_cell_row rfl _ _ (W00.heap.size + 1) _ _ _ _ rfl HFin.out Tryz.underlying24 rfl (by kernel_rfl)) rfl ?_
  exact HG.out

set_option maxHeartbeats 16000000 in
set_option maxRecDepth 100000 in
theorem followF_any (la : Value) (L : List Au) (bl : Nat) (f : Fld) (v : Value) (W00 : World) (hE : Env W00) (hA : AL la L W00) (hbn : bnd L) (hr : rightA L = 0) (hq : QL v f.subs W00) (hok : okF f)
    (hh : ∀ a, getA L f.auth = some a → validT a.heading = true ∧ a.heading.length ≤ 10000) (hl : W00.heap[bl]? = some (.cells #[la] 57 (0, 0))) :
    Calls Tryz.prog 63 #[FV f v, .pointer (some ⟨bl, 0, none⟩)] W00 fun e W' => ∃ u', e = .returned (FV (followX L f) u') ∧ Res14 W00 v f (followX L f) u' W' ∧ Below W00.heap.size W00 W' := by
  obtain ⟨W0, hW0⟩ : ∃ W0, (W00.alloc (.cells #[.string (S f.tag), .string (S f.ind), v, .int .i64 f.auth] 24)).alloc (.cells #[.string ⟨#[]⟩, .string ⟨#[]⟩, .slice none 0 0, .int .i64 0] 24) = W0 := ⟨_, rfl⟩
  have b0 : Below W00.heap.size W00 W0 := by rw [← hW0]; exact ((Below.refl W00.heap.size W00).alloc (Nat.le_refl _) _).alloc (by simp) _
  have hsz0 : W0.heap.size = W00.heap.size + 2 := by rw [← hW0]; simp
  have hF : W0.heap[W00.heap.size]? = some (.cells #[.string (S f.tag), .string (S f.ind), v, .int .i64 f.auth] 24 (0, 0)) := by
    rw [← hW0]
    exact (Below.heap_alloc _ _ _ (by simp)).trans (heap_alloc_new W00 _)
  have hR : W0.heap[W00.heap.size + 1]? = some (.cells #[.string ⟨#[]⟩, .string ⟨#[]⟩, .slice none 0 0, .int .i64 0] 24 (0, 0)) := by
    rw [← hW0]
    have := heap_alloc_new (W00.alloc (.cells #[.string (S f.tag), .string (S f.ind), v, .int .i64 f.auth] 24)) (.cells #[.string ⟨#[]⟩, .string ⟨#[]⟩, .slice none 0 0, .int .i64 0] 24)
    simpa using this
  have kl : W0.cell? ⟨bl, 0, none⟩ = some la := by rw [Lib.cell_of_heap ((b0.block bl (Array.getElem?_eq_some_iff.1 hl).1).trans hl)]; rfl
  have HR := Lib.hid (fun (W : World) (h : Below W0.heap.size W0 W) => (h.block (W00.heap.size + 1) (by omega)).trans hR)
  have HB := Lib.hid (fun (W : World) (h : Below W0.heap.size W0 W) => b0.trans (h.mono b0.size))
  obtain ⟨⟨p0, p1, p2, p3⟩, -⟩ := fcells4 hF
  have HQ := Lib.hid (fun (W : World) (h : Below W00.heap.size W00 W) => hq.after h)
  have cC := Lib.hid (followed_any la L f v W0 (hE.after b0) (hA.after b0) hbn hr (hq.after b0) hok hh)
  have HW0 := Lib.hid hW0
  have HSz := Lib.hid hsz0
  obtain ⟨va, vc, hla, -, -⟩ := hA.length
  obtain ⟨au, cp, hv, -, -⟩ := hq.length
  obtain ⟨g, hg⟩ : ∃ g, followX L f = g := ⟨_, rfl⟩
  rw [hg] at cC ⊢
  obtain ⟨Q, hQ⟩ : ∃ Q, (fun (e : Ending) (W' : World) => ∃ u', e = .returned (FV g u') ∧ Res14 W00 v f g u' W' ∧ Below W00.heap.size W00 W') = Q := ⟨_, rfl⟩
  rw [hQ]
  have HQQ : RowKit.Hid (∀ u' w6, Res14 W0 v f g u' w6 → Below W0.heap.size W0 w6 → (∃ ao n cp, u' = .slice ao n cp) ∧ Q (.returned (.agg #[.string (S g.tag), .string (S g.ind), u', .int .i64 g.auth])) (setF4 w6 (W00.heap.size + 1) (.string (S g.tag)) (.string (S g.ind)) u' (.int .i64 g.auth))) := by
    intro u' w6 h6 hb6
    have hbF := setF4_below (HB.out w6 hb6) (Nat.le_succ _) (.string (S g.tag)) (.string (S g.ind)) u' (.int .i64 g.auth)
    refine ⟨?_, ?_⟩
    · rcases h6 with ⟨rfl, _⟩ | h
      · exact ⟨_, _, _, hv⟩
      · obtain ⟨ao, c6, e, -, -⟩ := h.here.length
        exact ⟨_, _, _, e⟩
    · rw [← hQ]
      refine ⟨u', rfl, ?_, hbF⟩
      rcases h6 with h | h
      · exact .inl h
      · exact .inr ((h.on (Nat.le_of_eq (setF4_size _ _ _ _ _ _).symm) (fun i hi _ => setF4_other _ _ _ _ i (by omega))).mono (by omega))
  clear hQ
  unfold FV at cC ⊢
  subst hla hv
  clear hW0 hF hR b0 hq hE hA hok hh hl hg hsz0
  generalize hsb : f.subs = sb at *
  generalize sb.length = n at *
  generalize L.length = m at *
  generalize S f.tag = t0 at *
  generalize S f.ind = t1 at *
  generalize f.auth = t3 at *
  go_enter Tryz.func63, Tryz.ntmps63
  go_upto_region 1 with fail
  rw [HW0.out]
  clear HW0
  go_wp2_with fail
  refine cC.out.mono ?_
  rintro e w6 ⟨v', rfl, hn6, hb6⟩
  have hR6 := HR.out w6 hb6
  obtain ⟨⟨r0, r1, r2, r3⟩, s0, s1, s2, s3⟩ := fcells4 hR6
  obtain ⟨⟨ao, m6, c6, rfl⟩, hgood⟩ := HQQ.out v' w6 hn6 hb6
  have hfin := setF4_heap (x0 := .string (S g.tag)) (x1 := .string (S g.ind)) (x2 := .slice ao m6 c6) (x3 := .int .i64 g.auth) hR6
  unfold setF4 at hfin hgood
  have HFin := Lib.hid hfin
  have HG := Lib.hid hgood
  clear hfin hgood hn6 hb6 hR6 HQQ cC HQ HR HB kl
  generalize S g.tag = g0 at *
  generalize S g.ind = g1 at *
  generalize g.auth = g3 at *
  go_wp2
  (try simp only [Exit.inBlock, Exit.then])
  refine bodyPost_ret (results_cell_row rfl _ _ (W00.heap.size + 1) _ _ _ _ rfl HFin.out Tryz.underlying24 rfl (by kernel_rfl)) rfl ?_
  exact HG.out

set_option maxHeartbeats 16000000 in
set_option maxRecDepth 100000 in
theorem pLink_any (la : Value) (L : List Au) (r : Rec) (u : Value) (w : World) (hE : Env w) (hA : AL la L w) (hbn : bnd L) (hr : rightA L = 0) (hu : FL u r.fields w) (hz : r.fields.length ≤ 100000) (hok : ∀ f ∈ r.fields, okF f)
    (hh : ∀ f ∈ r.fields, looseX f = true → validT (headX f) = true ∧ (headX f).length ≤ 1000) :
    Calls Tryz.prog 28 #[la, RV r u] w fun e w' => ∃ v', e = .returned (RV (mapRec (linkX L) r) v') ∧ FL v' (r.fields.map (linkX L)) w' ∧ Below w.heap.size w w' := by
  obtain ⟨Q, hQ⟩ : ∃ Q, (fun (e : Ending) (w' : World) => ∃ v', e = .returned (RV (mapRec (linkX L) r) v') ∧ FL v' (r.fields.map (linkX L)) w' ∧ Below w.heap.size w w') = Q := ⟨_, rfl⟩
  rw [hQ]
  obtain ⟨W0, hW0⟩ : ∃ W0, ((w.alloc (.cells #[la] 57)).alloc (.cells #[.int .i64 r.id, .int .i64 r.ver, .int .i64 r.kind, .string (S r.lang), u] 33)).alloc (.cells #[.int .i64 0, .int .i64 0, .int .i64 0, .string ⟨#[]⟩, .slice none 0 0] 33) = W0 := ⟨_, rfl⟩
  have b1 : Below w.heap.size w (w.alloc (.cells #[la] 57)) := (Below.refl w.heap.size w).alloc (Nat.le_refl _) _
  have b0 : Below w.heap.size w W0 := by rw [← hW0]; exact (b1.alloc b1.size _).alloc (by simp; omega) _
  have hsz0 : W0.heap.size = w.heap.size + 3 := by rw [← hW0]; simp
  have hL0 : W0.heap[w.heap.size]? = some (.cells #[la] 57 (0, 0)) := by
    rw [← hW0]
    exact (Below.heap_alloc _ _ _ (by simp; omega)).trans ((Below.heap_alloc _ _ _ (by simp)).trans (heap_alloc_new w _))
  have hX : W0.heap[w.heap.size + 1]? = some (.cells #[.int .i64 r.id, .int .i64 r.ver, .int .i64 r.kind, .string (S r.lang), u] 33 (0, 0)) := by
    rw [← hW0]
    refine (Below.heap_alloc _ _ _ (by simp)).trans ?_
    have := heap_alloc_new (w.alloc (.cells #[la] 57)) (.cells #[.int .i64 r.id, .int .i64 r.ver, .int .i64 r.kind, .string (S r.lang), u] 33)
    simpa using this
  have hR : W0.heap[w.heap.size + 1 + 1]? = some (.cells #[.int .i64 0, .int .i64 0, .int .i64 0, .string ⟨#[]⟩, .slice none 0 0] 33 (0, 0)) := by
    rw [← hW0]
    have := heap_alloc_new ((w.alloc (.cells #[la] 57)).alloc (.cells #[.int .i64 r.id, .int .i64 r.ver, .int .i64 r.kind, .string (S r.lang), u] 33)) (.cells #[.int .i64 0, .int .i64 0, .int .i64 0, .string ⟨#[]⟩, .slice none 0 0] 33)
    simpa using this
  have HR := Lib.hid (fun (W : World) (h : Below W0.heap.size W0 W) => (h.block (w.heap.size + 1 + 1) (by omega)).trans hR)
  have cC := Lib.hid (changed_any (linkX L) 61 #[.pointer (some ⟨w.heap.size, 0, none⟩)] r u W0 (hu.after b0) hz (fun f hf => Nat.le_trans (hok f hf).1 (by decide)) enter_link
    (fun f hf v N W hW hs hN1 hN2 => (linkF_any la L w.heap.size f v W (hE.after (b0.trans (hW.mono b0.size))) (hA.after (b0.trans (hW.mono b0.size))) hbn hr hs.ql (hok f hf) (hh f hf) ((hW.block w.heap.size (by omega)).trans hL0)).mono (by
      rintro e W' ⟨u', h1, h2, h3⟩
      exact ⟨u', h1, h2.new hs.new hN2 h3, h3⟩)))
  have HQQ : RowKit.Hid (∀ v' w6, New W0.heap.size (FL v' (r.fields.map (linkX L))) w6 → Below W0.heap.size W0 w6 → Q (.returned (.agg #[.int .i64 r.id, .int .i64 r.ver, .int .i64 r.kind, .string (S r.lang), v'])) (setR14 w6 (w.heap.size + 1 + 1) (.int .i64 r.id) (.int .i64 r.ver) (.int .i64 r.kind) (.string (S r.lang)) v')) := by
    intro v' w6 h6 hb6
    rw [← hQ]
    exact ⟨v', rfl, (h6.on (Nat.le_of_eq (setR14_size _ _ _ _ _ _ _).symm) (fun i hi _ => setR14_other _ _ _ _ _ i (by omega))).here, rec_below (b0.trans (hb6.mono b0.size)) (by omega) _ _ _ _ _⟩
  have kl : W0.cell? ⟨w.heap.size, 0, none⟩ = some la := by rw [Lib.cell_of_heap hL0]; rfl
  obtain ⟨⟨x0, x1, x2, x3, x4⟩, -⟩ := rcells14 hX
  have HW0 := Lib.hid hW0
  obtain ⟨va, vc, hla, -, -⟩ := hA.length
  obtain ⟨au, cp, hv, -, -⟩ := hu.length
  have hRV : ∀ v', RV (mapRec (linkX L) r) v' = .agg #[.int .i64 r.id, .int .i64 r.ver, .int .i64 r.kind, .string (S r.lang), v'] := fun _ => rfl
  simp only [hRV] at cC
  obtain ⟨M, hM⟩ : ∃ M, r.fields.map (linkX L) = M := ⟨_, rfl⟩
  rw [hM] at cC HQQ
  unfold RV at cC ⊢
  subst hla hv
  clear hQ hW0 hL0 hX hR b0 b1 hsz0 hE hA hu hok hh hz hRV hM
  generalize r.fields.length = n at *
  generalize L.length = m at *
  generalize S r.lang = lg at *
  generalize r.id = rid at *
  generalize r.ver = rver at *
  generalize r.kind = rkind at *
  go_enter Tryz.func28, Tryz.ntmps28
  go_upto_region 1 with fail
  rw [HW0.out]
  clear HW0
  go_wp2_with fail
  refine cC.out.mono ?_
  rintro e w6 ⟨v', rfl, hn6, hb6⟩
  have hR6 := HR.out w6 hb6
  obtain ⟨⟨r0, r1, r2, r3, r4⟩, s0, s1, s2, s3, s4⟩ := rcells14 hR6
  obtain ⟨ao, c6, hv', -, -⟩ := hn6.here.length
  have hgood := HQQ.out v' w6 hn6 hb6
  subst hv'
  have hfin := rec_set (x0 := .int .i64 rid) (x1 := .int .i64 rver) (x2 := .int .i64 rkind) (x3 := .string lg) (x4 := .slice ao M.length c6) hR6
  unfold setR14 at hgood
  have HFin := Lib.hid hfin
  have HG := Lib.hid hgood
  clear hfin hgood hn6 hb6 hR6 HQQ cC HR kl x0 x1 x2 x3 x4
  generalize M.length = m6 at *
  go_wp2
  (try simp only [Exit.inBlock, Exit.then])
  refine bodyPost_ret (results_cell_row rfl _ _ (w.heap.size + 1 + 1) _ _ _ _ rfl HFin.out Tryz.underlying33 rfl (by kernel_rfl)) rfl ?_
  exact HG.out

set_option maxHeartbeats 16000000 in
set_option maxRecDepth 100000 in
theorem pFollow_any (la : Value) (L : List Au) (r : Rec) (u : Value) (w : World) (hE : Env w) (hA : AL la L w) (hbn : bnd L) (hr : rightA L = 0) (hu : FL u r.fields w) (hz : r.fields.length ≤ 100000) (hok : ∀ f ∈ r.fields, okF f)
    (hh : ∀ f ∈ r.fields, ∀ a, getA L f.auth = some a → validT a.heading = true ∧ a.heading.length ≤ 10000) :
    Calls Tryz.prog 29 #[la, RV r u] w fun e w' => ∃ v', e = .returned (RV (mapRec (followX L) r) v') ∧ FL v' (r.fields.map (followX L)) w' ∧ Below w.heap.size w w' := by
  obtain ⟨Q, hQ⟩ : ∃ Q, (fun (e : Ending) (w' : World) => ∃ v', e = .returned (RV (mapRec (followX L) r) v') ∧ FL v' (r.fields.map (followX L)) w' ∧ Below w.heap.size w w') = Q := ⟨_, rfl⟩
  rw [hQ]
  obtain ⟨W0, hW0⟩ : ∃ W0, ((w.alloc (.cells #[la] 57)).alloc (.cells #[.int .i64 r.id, .int .i64 r.ver, .int .i64 r.kind, .string (S r.lang), u] 33)).alloc (.cells #[.int .i64 0, .int .i64 0, .int .i64 0, .string ⟨#[]⟩, .slice none 0 0] 33) = W0 := ⟨_, rfl⟩
  have b1 : Below w.heap.size w (w.alloc (.cells #[la] 57)) := (Below.refl w.heap.size w).alloc (Nat.le_refl _) _
  have b0 : Below w.heap.size w W0 := by rw [← hW0]; exact (b1.alloc b1.size _).alloc (by simp; omega) _
  have hsz0 : W0.heap.size = w.heap.size + 3 := by rw [← hW0]; simp
  have hL0 : W0.heap[w.heap.size]? = some (.cells #[la] 57 (0, 0)) := by
    rw [← hW0]
    exact (Below.heap_alloc _ _ _ (by simp; omega)).trans ((Below.heap_alloc _ _ _ (by simp)).trans (heap_alloc_new w _))
  have hX : W0.heap[w.heap.size + 1]? = some (.cells #[.int .i64 r.id, .int .i64 r.ver, .int .i64 r.kind, .string (S r.lang), u] 33 (0, 0)) := by
    rw [← hW0]
    refine (Below.heap_alloc _ _ _ (by simp)).trans ?_
    have := heap_alloc_new (w.alloc (.cells #[la] 57)) (.cells #[.int .i64 r.id, .int .i64 r.ver, .int .i64 r.kind, .string (S r.lang), u] 33)
    simpa using this
  have hR : W0.heap[w.heap.size + 1 + 1]? = some (.cells #[.int .i64 0, .int .i64 0, .int .i64 0, .string ⟨#[]⟩, .slice none 0 0] 33 (0, 0)) := by
    rw [← hW0]
    have := heap_alloc_new ((w.alloc (.cells #[la] 57)).alloc (.cells #[.int .i64 r.id, .int .i64 r.ver, .int .i64 r.kind, .string (S r.lang), u] 33)) (.cells #[.int .i64 0, .int .i64 0, .int .i64 0, .string ⟨#[]⟩, .slice none 0 0] 33)
    simpa using this
  have HR := Lib.hid (fun (W : World) (h : Below W0.heap.size W0 W) => (h.block (w.heap.size + 1 + 1) (by omega)).trans hR)
  have cC := Lib.hid (changed_any (followX L) 63 #[.pointer (some ⟨w.heap.size, 0, none⟩)] r u W0 (hu.after b0) hz (fun f hf => Nat.le_trans (hok f hf).1 (by decide)) enter_follow
    (fun f hf v N W hW hs hN1 hN2 => (followF_any la L w.heap.size f v W (hE.after (b0.trans (hW.mono b0.size))) (hA.after (b0.trans (hW.mono b0.size))) hbn hr hs.ql (hok f hf) (hh f hf) ((hW.block w.heap.size (by omega)).trans hL0)).mono (by
      rintro e W' ⟨u', h1, h2, h3⟩
      exact ⟨u', h1, h2.new hs.new hN2 h3, h3⟩)))
  have HQQ : RowKit.Hid (∀ v' w6, New W0.heap.size (FL v' (r.fields.map (followX L))) w6 → Below W0.heap.size W0 w6 → Q (.returned (.agg #[.int .i64 r.id, .int .i64 r.ver, .int .i64 r.kind, .string (S r.lang), v'])) (setR14 w6 (w.heap.size + 1 + 1) (.int .i64 r.id) (.int .i64 r.ver) (.int .i64 r.kind) (.string (S r.lang)) v')) := by
    intro v' w6 h6 hb6
    rw [← hQ]
    exact ⟨v', rfl, (h6.on (Nat.le_of_eq (setR14_size _ _ _ _ _ _ _).symm) (fun i hi _ => setR14_other _ _ _ _ _ i (by omega))).here, rec_below (b0.trans (hb6.mono b0.size)) (by omega) _ _ _ _ _⟩
  have kl : W0.cell? ⟨w.heap.size, 0, none⟩ = some la := by rw [Lib.cell_of_heap hL0]; rfl
  obtain ⟨⟨x0, x1, x2, x3, x4⟩, -⟩ := rcells14 hX
  have HW0 := Lib.hid hW0
  obtain ⟨va, vc, hla, -, -⟩ := hA.length
  obtain ⟨au, cp, hv, -, -⟩ := hu.length
  have hRV : ∀ v', RV (mapRec (followX L) r) v' = .agg #[.int .i64 r.id, .int .i64 r.ver, .int .i64 r.kind, .string (S r.lang), v'] := fun _ => rfl
  simp only [hRV] at cC
  obtain ⟨M, hM⟩ : ∃ M, r.fields.map (followX L) = M := ⟨_, rfl⟩
  rw [hM] at cC HQQ
  unfold RV at cC ⊢
  subst hla hv
  clear hQ hW0 hL0 hX hR b0 b1 hsz0 hE hA hu hok hh hz hRV hM
  generalize r.fields.length = n at *
  generalize L.length = m at *
  generalize S r.lang = lg at *
  generalize r.id = rid at *
  generalize r.ver = rver at *
  generalize r.kind = rkind at *
  go_enter Tryz.func29, Tryz.ntmps29
  go_upto_region 1 with fail
  rw [HW0.out]
  clear HW0
  go_wp2_with fail
  refine cC.out.mono ?_
  rintro e w6 ⟨v', rfl, hn6, hb6⟩
  have hR6 := HR.out w6 hb6
  obtain ⟨⟨r0, r1, r2, r3, r4⟩, s0, s1, s2, s3, s4⟩ := rcells14 hR6
  obtain ⟨ao, c6, hv', -, -⟩ := hn6.here.length
  have hgood := HQQ.out v' w6 hn6 hb6
  subst hv'
  have hfin := rec_set (x0 := .int .i64 rid) (x1 := .int .i64 rver) (x2 := .int .i64 rkind) (x3 := .string lg) (x4 := .slice ao M.length c6) hR6
  unfold setR14 at hgood
  have HFin := Lib.hid hfin
  have HG := Lib.hid hgood
  clear hfin hgood hn6 hb6 hR6 HQQ cC HR kl x0 x1 x2 x3 x4
  generalize M.length = m6 at *
  go_wp2
  (try simp only [Exit.inBlock, Exit.then])
  refine bodyPost_ret (results_cell_row rfl _ _ (w.heap.size + 1 + 1) _ _ _ _ rfl HFin.out Tryz.underlying33 rfl (by kernel_rfl)) rfl ?_
  exact HG.out
end

end Go.Proofs.YthjdopnoophigaaGreatDoor
