/- Merged: KT16. -/
import Derived.Test.YtceneblmllpdnaaDoorQ29
namespace Go.Proofs.YtceneblmllpdnaaDoor

section
open Go.RowKit Go.PlainAid
set_option maxHeartbeats 16000000 in
set_option maxRecDepth 100000 in
theorem pWhole_any (r : Rec) (u : Value) (p : Prt) (fv tv : Value) (w : World) (hE : Env w) (hu : FL u r.fields w) (hf : FL fv p.frm.fields w) (ht : TL tv p.taken w) (hbr : BndR r) (hb : BndR p.frm) (hz : p.taken.length ≤ 1000000) (hr : rightP p.into p.frm p.taken = 0) (hid : r.id = p.into) :
    Calls Tryd.prog 20 #[RV r u, PgV p fv tv] w fun e w' => e = .returned (.bool (backF p.frm.fields p.taken r.fields).2) ∧ Below w.heap.size w w' := by
  obtain ⟨W0, hW0⟩ : ∃ W0, (w.alloc (.cells #[.int .i64 r.id, .int .i64 r.ver, .int .i64 r.kind, .string (S r.lang), u] 31)).alloc (.cells #[.int .i64 p.into, .int .i64 p.frm.id, .int .i64 p.frm.ver, .int .i64 p.frm.kind, .string (S p.frm.lang), fv, tv] 36) = W0 := ⟨_, rfl⟩
  have b0 : Below w.heap.size w W0 := by rw [← hW0]; exact ((Below.refl w.heap.size w).alloc (Nat.le_refl _) _).alloc (by simp) _
  have hX : W0.heap[w.heap.size]? = some (.cells #[.int .i64 r.id, .int .i64 r.ver, .int .i64 r.kind, .string (S r.lang), u] 31 (0, 0)) := by
    rw [← hW0]
    exact (Below.heap_alloc _ _ _ (by simp)).trans (heap_alloc_new w _)
  have hP : W0.heap[w.heap.size + 1]? = some (.cells #[.int .i64 p.into, .int .i64 p.frm.id, .int .i64 p.frm.ver, .int .i64 p.frm.kind, .string (S p.frm.lang), fv, tv] 36 (0, 0)) := by
    rw [← hW0]
    have := heap_alloc_new (w.alloc (.cells #[.int .i64 r.id, .int .i64 r.ver, .int .i64 r.kind, .string (S r.lang), u] 31)) (.cells #[.int .i64 p.into, .int .i64 p.frm.id, .int .i64 p.frm.ver, .int .i64 p.frm.kind, .string (S p.frm.lang), fv, tv] 36)
    simpa using this
  have cP := Lib.hid (mparted_any r u p fv tv W0 (hE.after b0) (hu.after b0) (hf.after b0) (ht.after b0) hbr hb hz hr hid)
  obtain ⟨bb, hbb⟩ : ∃ x, (backF p.frm.fields p.taken r.fields).2 = x := ⟨_, rfl⟩
  rw [hbb] at cP ⊢
  obtain ⟨ua, uc, hua, -, -⟩ := hu.length
  obtain ⟨fa, fc, hfa, -, -⟩ := hf.length
  obtain ⟨ta, tc, -, -, hta, -, -, -, -⟩ := ht.opened
  have HB := Lib.hid b0
  have HW0 := Lib.hid hW0
  obtain ⟨⟨x0, x1, x2, x3, x4⟩, -⟩ := rcells hX
  obtain ⟨⟨p0, p1, p2, p3, p4, p5, p6⟩, -⟩ := pcells16 hP
  unfold RV PgV at *
  subst hua hfa hta
  clear hE hu hf ht hbr hb hz hr hid hW0 hX hP b0 hbb
  generalize S r.lang = lr at *
  generalize r.id = rid at *
  generalize r.ver = rver at *
  generalize r.kind = rkind at *
  generalize S p.frm.lang = lp at *
  generalize p.frm.id = fid at *
  generalize p.frm.ver = fver at *
  generalize p.frm.kind = fkind at *
  generalize p.into = pin at *
  go_enter Tryd.func20, Tryd.ntmps20
  go_upto_region 1 with fail
  (try rw [HW0.out])
  clear HW0
  go_wp2_with fail
  refine cP.out.mono ?_
  rintro e w1 ⟨rv, rfl, hft, hb1⟩
  obtain ⟨ra, rc, rfl⟩ := hft.form
  have HF := Lib.hid (HB.out.trans (hb1.mono HB.out.size))
  have HF2 := Lib.hid (fun (o : Obj) => HF.out.alloc HF.out.size o)
  clear hft hb1 cP x0 x1 x2 x3 x4 p0 p1 p2 p3 p4 p5 p6
  go_wp2
  first | exact ⟨rfl, HF2.out _⟩ | (go_ret; exact ⟨rfl, HF2.out _⟩)

set_option maxHeartbeats 32000000 in
set_option maxRecDepth 100000 in
theorem pSplit_any (r : Rec) (u : Value) (p : Prt) (fv tv : Value) (w : World) (hE : Env w) (hu : FL u r.fields w) (hf : FL fv p.frm.fields w) (ht : TL tv p.taken w) (hbr : BndR r) (hb : BndR p.frm) (hz : p.taken.length ≤ 1000000) (hr : rightP p.into p.frm p.taken = 0) (hid : r.id = p.into) :
    Calls Tryd.prog 19 #[RV r u, PgV p fv tv] w fun e w' => ∃ rv gv, e = .returned (.tuple #[RV r rv, RV p.frm gv, .int .i64 0]) ∧ New w.heap.size (fun W => FL rv (backF p.frm.fields p.taken r.fields).1 W ∧ FL gv p.frm.fields W) w' ∧ Below w.heap.size w w' := by
  obtain ⟨Q, hQ⟩ : ∃ Q, (fun (e : Ending) (w' : World) => ∃ rv gv, e = .returned (.tuple #[RV r rv, RV p.frm gv, .int .i64 0]) ∧ New w.heap.size (fun W => FL rv (backF p.frm.fields p.taken r.fields).1 W ∧ FL gv p.frm.fields W) w' ∧ Below w.heap.size w w') = Q := ⟨_, rfl⟩
  rw [hQ]
  have HQ : RowKit.Hid (∀ rv gv W, New w.heap.size (fun W => FL rv (backF p.frm.fields p.taken r.fields).1 W ∧ FL gv p.frm.fields W) W → Below w.heap.size w W → Q (.returned (.tuple #[.agg #[.int .i64 r.id, .int .i64 r.ver, .int .i64 r.kind, .string (S r.lang), rv], .agg #[.int .i64 p.frm.id, .int .i64 p.frm.ver, .int .i64 p.frm.kind, .string (S p.frm.lang), gv], .int .i64 0])) W) := by
    rw [← hQ]
    exact fun rv gv W h1 h2 => ⟨rv, gv, rfl, h1, h2⟩
  obtain ⟨W0, hW0⟩ : ∃ W0, (((w.alloc (.cells #[.int .i64 r.id, .int .i64 r.ver, .int .i64 r.kind, .string (S r.lang), u] 31)).alloc (.cells #[.int .i64 p.into, .int .i64 p.frm.id, .int .i64 p.frm.ver, .int .i64 p.frm.kind, .string (S p.frm.lang), fv, tv] 36)).alloc (.cells #[.int .i64 0, .int .i64 0, .int .i64 0, .string ⟨#[]⟩, .slice none 0 0] 31)).alloc (.cells #[.int .i64 0, .int .i64 0, .int .i64 0, .string ⟨#[]⟩, .slice none 0 0] 31) = W0 := ⟨_, rfl⟩
  have b0 : Below w.heap.size w W0 := by rw [← hW0]; exact ((((Below.refl w.heap.size w).alloc (Nat.le_refl _) _).alloc (by simp) _).alloc (by simp <;> omega) _).alloc (by simp <;> omega) _
  have hsz0 : W0.heap.size = w.heap.size + 4 := by rw [← hW0]; simp
  have hX : W0.heap[w.heap.size]? = some (.cells #[.int .i64 r.id, .int .i64 r.ver, .int .i64 r.kind, .string (S r.lang), u] 31 (0, 0)) := by
    rw [← hW0]
    exact (Below.heap_alloc _ _ _ (by simp <;> omega)).trans ((Below.heap_alloc _ _ _ (by simp <;> omega)).trans ((Below.heap_alloc _ _ _ (by simp)).trans (heap_alloc_new w _)))
  have hP : W0.heap[w.heap.size + 1]? = some (.cells #[.int .i64 p.into, .int .i64 p.frm.id, .int .i64 p.frm.ver, .int .i64 p.frm.kind, .string (S p.frm.lang), fv, tv] 36 (0, 0)) := by
    rw [← hW0]
    refine (Below.heap_alloc _ _ _ (by simp <;> omega)).trans ((Below.heap_alloc _ _ _ (by simp)).trans ?_)
    have := heap_alloc_new (w.alloc (.cells #[.int .i64 r.id, .int .i64 r.ver, .int .i64 r.kind, .string (S r.lang), u] 31)) (.cells #[.int .i64 p.into, .int .i64 p.frm.id, .int .i64 p.frm.ver, .int .i64 p.frm.kind, .string (S p.frm.lang), fv, tv] 36)
    simpa using this
  have hZ1 : W0.heap[w.heap.size + 2]? = some (.cells #[.int .i64 0, .int .i64 0, .int .i64 0, .string ⟨#[]⟩, .slice none 0 0] 31 (0, 0)) := by
    rw [← hW0]
    refine (Below.heap_alloc _ _ _ (by simp)).trans ?_
    have := heap_alloc_new ((w.alloc (.cells #[.int .i64 r.id, .int .i64 r.ver, .int .i64 r.kind, .string (S r.lang), u] 31)).alloc (.cells #[.int .i64 p.into, .int .i64 p.frm.id, .int .i64 p.frm.ver, .int .i64 p.frm.kind, .string (S p.frm.lang), fv, tv] 36)) (.cells #[.int .i64 0, .int .i64 0, .int .i64 0, .string ⟨#[]⟩, .slice none 0 0] 31)
    simpa using this
  have hZ2 : W0.heap[w.heap.size + 3]? = some (.cells #[.int .i64 0, .int .i64 0, .int .i64 0, .string ⟨#[]⟩, .slice none 0 0] 31 (0, 0)) := by
    rw [← hW0]
    have := heap_alloc_new (((w.alloc (.cells #[.int .i64 r.id, .int .i64 r.ver, .int .i64 r.kind, .string (S r.lang), u] 31)).alloc (.cells #[.int .i64 p.into, .int .i64 p.frm.id, .int .i64 p.frm.ver, .int .i64 p.frm.kind, .string (S p.frm.lang), fv, tv] 36)).alloc (.cells #[.int .i64 0, .int .i64 0, .int .i64 0, .string ⟨#[]⟩, .slice none 0 0] 31)) (.cells #[.int .i64 0, .int .i64 0, .int .i64 0, .string ⟨#[]⟩, .slice none 0 0] 31)
    simpa using this
  have cP := Lib.hid (mparted_any r u p fv tv W0 (hE.after b0) (hu.after b0) (hf.after b0) (ht.after b0) hbr hb hz hr hid)
  have cK := Lib.hid (fun (W : World) (h : Below w.heap.size w W) => mclone_any p.frm fv W (hf.after h) (by have := hb.fields; omega) (fun f hf => by have := hb.subs f hf; omega))
  obtain ⟨bb, hbb⟩ : ∃ x, (backF p.frm.fields p.taken r.fields).2 = x := ⟨_, rfl⟩
  obtain ⟨BL, hBL⟩ : ∃ x, (backF p.frm.fields p.taken r.fields).1 = x := ⟨_, rfl⟩
  rw [hbb, hBL] at cP
  rw [hBL] at HQ
  obtain ⟨ua, uc, hua, -, -⟩ := hu.length
  obtain ⟨fa, fc, hfa, -, -⟩ := hf.length
  obtain ⟨ta, tc, -, -, hta, -, -, -, -⟩ := ht.opened
  have HB := Lib.hid b0
  have HS0 := Lib.hid hsz0
  have HW0 := Lib.hid hW0
  have HP := Lib.hid (fun (W : World) (h : Below W0.heap.size W0 W) => (h.block (w.heap.size + 1) (by omega)).trans hP)
  have HZ1 := Lib.hid (fun (W : World) (h : Below W0.heap.size W0 W) => (h.block (w.heap.size + 2) (by omega)).trans hZ1)
  have HZ2 := Lib.hid (fun (W : World) (h : Below W0.heap.size W0 W) => (h.block (w.heap.size + 3) (by omega)).trans hZ2)
  obtain ⟨⟨x0, x1, x2, x3, x4⟩, -⟩ := rcells hX
  obtain ⟨⟨p0, p1, p2, p3, p4, p5, p6⟩, -⟩ := pcells16 hP
  unfold RV PgV at *
  subst hua hfa hta
  clear hQ hE hu hf ht hbr hb hz hr hid hW0 hX hP hZ1 hZ2 b0 hbb hBL hsz0
  generalize S r.lang = lr at *
  generalize r.id = rid at *
  generalize r.ver = rver at *
  generalize r.kind = rkind at *
  generalize S p.frm.lang = lp at *
  generalize p.frm.id = fid at *
  generalize p.frm.ver = fver at *
  generalize p.frm.kind = fkind at *
  generalize p.into = pin at *
  go_enter Tryd.func19, Tryd.ntmps19
  go_upto_region 1 with fail
  (try rw [HW0.out])
  clear HW0
  go_wp2_with fail
  refine cP.out.mono ?_
  rintro e w1 ⟨rv, rfl, hft, hb1⟩
  obtain ⟨rva, rvc, rfl⟩ := hft.form
  obtain ⟨RN, hRN⟩ : ∃ x, BL.length = x := ⟨_, rfl⟩
  rw [hRN] at hft ⊢
  have HF1 := Lib.hid hft
  have HB1 := Lib.hid hb1
  clear hft hb1 cP x0 x1 x2 x3 x4 p0 p1 p2 p3 p4 p5 p6
  obtain ⟨wr, hwr⟩ : ∃ X, w1.alloc (.cells #[.int .i64 rid, .int .i64 rver, .int .i64 rkind, .string lr, .slice rva RN rvc] 31) = X := ⟨_, rfl⟩
  have b1 : Below w1.heap.size w1 wr := by rw [← hwr]; exact (Below.refl _ _).alloc (Nat.le_refl _) _
  have hBx : wr.heap[w1.heap.size]? = some (.cells #[.int .i64 rid, .int .i64 rver, .int .i64 rkind, .string lr, .slice rva RN rvc] 31 (0, 0)) := by rw [← hwr]; exact heap_alloc_new w1 _
  obtain ⟨bX, hbX⟩ : ∃ x, w1.heap.size = x := ⟨_, rfl⟩
  rw [hbX] at hBx
  have hbXl : bX < wr.heap.size := (Array.getElem?_eq_some_iff.1 hBx).1
  have hw1 : w.heap.size + 4 ≤ bX := by have := HB1.out.size; have := HS0.out; omega
  have hbq := HB1.out.trans (b1.mono HB1.out.size)
  go_upto_region 4 with fail
  (try rw [hwr])
  (try rw [hbX])
  have HSz : RowKit.Hid (w.heap.size ≤ wr.heap.size) := by unfold RowKit.Hid; omega
  have HRr : RowKit.Hid (w.heap.size + 2 < wr.heap.size) := by unfold RowKit.Hid; omega
  have HRp : RowKit.Hid (w.heap.size + 3 < wr.heap.size) := by unfold RowKit.Hid; omega
  obtain ⟨Xr, hXr⟩ : ∃ X, Obj.cells #[.int .i64 rid, .int .i64 rver, .int .i64 rkind, .string lr, .slice rva RN rvc] 31 (0, 0) = X := ⟨_, rfl⟩
  obtain ⟨Yp, hYp⟩ : ∃ Y : Value → Obj, (fun fv => Obj.cells #[.int .i64 fid, .int .i64 fver, .int .i64 fkind, .string lp, fv] 31 (0, 0)) = Y := ⟨_, rfl⟩
  have HXr := Lib.hid hXr.symm
  have HYp := Lib.hid (fun fv => (congrFun hYp fv).symm)
  have HR0 := Lib.hid (HZ1.out wr hbq)
  have HP0 := Lib.hid (HZ2.out wr hbq)
  have hPw := HP.out wr hbq
  have hw0 : Below w.heap.size w wr := HB.out.trans (hbq.mono HB.out.size)
  have HBe := Lib.hid (fun (W : World) (h : Ra w.heap.size (w.heap.size + 2) (w.heap.size + 3) wr.heap.size Xr Yp p.frm.fields wr W) => (h.but bX (by omega) (by omega) hbXl).trans hBx)
  have HPe := Lib.hid (fun (W : World) (h : Ra w.heap.size (w.heap.size + 2) (w.heap.size + 3) wr.heap.size Xr Yp p.frm.fields wr W) => (h.but (w.heap.size + 1) (by omega) (by omega) (by omega)).trans hPw)
  have cC := Lib.hid (fun (W : World) (h : Ra w.heap.size (w.heap.size + 2) (w.heap.size + 3) wr.heap.size Xr Yp p.frm.fields wr W) => (cK.out W (hw0.trans h.low)).mono (R' := fun e W' => ∃ fv, e = .returned (.agg #[.int .i64 fid, .int .i64 fver, .int .i64 fkind, .string lp, fv]) ∧ FT wr.heap.size fv p.frm.fields W' ∧ Below W.heap.size W W') (fun e W' ⟨fv, h1, h2, h3, _⟩ => ⟨fv, h1, h2.base (by have := h.low.size; omega), h3⟩))
  have hft0 : FT W0.heap.size (.slice rva RN rvc) BL wr := HF1.out.after b1
  have HEnd : RowKit.Hid (∀ W, Ra w.heap.size (w.heap.size + 2) (w.heap.size + 3) wr.heap.size Xr Yp p.frm.fields wr W → PrX (w.heap.size + 2) Xr W → PpX (w.heap.size + 3) wr.heap.size Yp p.frm.fields W → ∃ fv, W.heap[w.heap.size + 2]? = some (.cells #[.int .i64 rid, .int .i64 rver, .int .i64 rkind, .string lr, .slice rva RN rvc] 31 (0, 0)) ∧ W.heap[w.heap.size + 3]? = some (.cells #[.int .i64 fid, .int .i64 fver, .int .i64 fkind, .string lp, fv] 31 (0, 0)) ∧
      Q (.returned (.tuple #[.agg #[.int .i64 rid, .int .i64 rver, .int .i64 rkind, .string lr, .slice rva RN rvc], .agg #[.int .i64 fid, .int .i64 fver, .int .i64 fkind, .string lp, fv], .int .i64 0])) W) := by
    intro W hR h1 h2
    obtain ⟨fv, h3, h4⟩ := h2
    refine ⟨fv, by rw [h1, HXr.out], by rw [h3, HYp.out], HQ.out _ _ W ?_ (hw0.trans hR.low)⟩
    have hft2 : FT W0.heap.size (.slice rva RN rvc) BL W := hft0.kept (KpF.of hR.low.size fun i hi hl => hR.but i (by have := HS0.out; omega) (by have := HS0.out; omega) hl)
    intro W' hs' hb'
    exact ⟨(hft2.kept (KpF.of hs' fun i hi hl => hb' i (by have := HS0.out; omega) hl)).fl, (h4.kept (KpF.of hs' fun i hi hl => hb' i (by omega) hl)).fl⟩
  clear hXr hYp HQ cK HF1 hwr hBx hbX hbXl hbq hPw hw0 hft0 HB1 b1 hw1
  apply wp_region_rel (R := Ra w.heap.size (w.heap.size + 2) (w.heap.size + 3) wr.heap.size Xr Yp p.frm.fields) (V := [SPR.eq _ (.agg #[.int .i64 rid, .int .i64 rver, .int .i64 rkind, .string lr, .slice rva RN rvc]), SPR.eq _ (.pointer (some ⟨w.heap.size + 1, 1, none⟩)), SPR.eq _ (.agg #[.int .i64 fid, .int .i64 fver, .int .i64 fkind, .string lp, .slice fa p.frm.fields.length fc]), SPR.ft16 _ _ _ _ _ _ _ HRr.out HRp.out (fun fv => .agg #[.int .i64 fid, .int .i64 fver, .int .i64 fkind, .string lp, fv]), SPR.pr16 _ _ _ _ _ _ _, SPR.pp16 _ _ _ _ _ _ _, SPR.eq _ (.int .i64 0)])
  case htrans => exact fun _ _ _ h k => h.trans k
  case hdrew => exact Ra.below HSz.out (Below.refl _ _).drew
  case hm => kernel_rfl
  case hd => kernel_rfl
  case hb => kernel_rfl
  case hA =>
    intro vs
    simp only [puts, Act.put, List.setIfInBounds_toArray, List.set_cons_zero, List.set_cons_succ]
    exact rfl
  case hob =>
    refine ObsR.cons _ _ _ _ _ _ _ ?o0 (ObsR.cons _ _ _ _ _ _ _ ?o1 (ObsR.cons _ _ _ _ _ _ _ ?o2 (ObsR.cons _ _ _ _ _ _ _ ?o3 (ObsR.cons _ _ _ _ _ _ _ ?o4 (ObsR.cons _ _ _ _ _ _ _ ?o5 (ObsR.cons _ _ _ _ _ _ _ ?o6 (ObsR.nil _ _ _ _ _ _ _)))))))
    case o0 =>
      intro vs W hw hd K hK
      obtain ⟨⟨m0, m1, m2, m3, m4⟩, -⟩ := rcells (HBe.out W hw)
      go_simp
      exact hK.out _ _ rfl Ra.refl
    case o1 =>
      intro vs W hw hd K hK
      go_simp
      exact hK.out _ _ rfl Ra.refl
    case o2 =>
      intro vs W hw hd K hK
      have h1 : vs 1 = .pointer (some ⟨w.heap.size + 1, 1, none⟩) := hd 1 (by kernel_rfl)
      obtain ⟨⟨p0, p1, p2, p3, p4, p5, p6⟩, -⟩ := pcells16 (HPe.out W hw)
      simp only [Nat.reduceAdd, h1] at hK ⊢
      go_simp
      exact hK.out _ _ rfl Ra.refl
    case o3 =>
      intro vs W hw hd K hK
      have h2 : vs 2 = .agg #[.int .i64 fid, .int .i64 fver, .int .i64 fkind, .string lp, .slice fa p.frm.fields.length fc] := hd 2 (by kernel_rfl)
      simp only [Nat.reduceAdd, h2] at hK ⊢
      go_simp
      refine (cC.out W hw).mono ?_
      rintro e W' ⟨fv, rfl, hf, hb'⟩
      exact hK.out _ _ ⟨fv, rfl, hf⟩ (Ra.below (by have := hw.low.size; have := HSz.out; omega) hb')
    case o4 =>
      intro vs W hw hd K hK
      have h0 : vs 0 = .agg #[.int .i64 rid, .int .i64 rver, .int .i64 rkind, .string lr, .slice rva RN rvc] := hd 0 (by kernel_rfl)
      obtain ⟨cs, hcs, hz⟩ := hw.shr _ _ HR0.out
      have hS := Ra.rowR (n0 := w.heap.size) (p := w.heap.size + 3) (N := wr.heap.size) (Y := Yp) (L := p.frm.fields) hcs HXr.out hz.symm (by omega) (by omega) HRr.out
      apply step_store_row16 (ty := 31) (x := .tmp 4) (y := .tmp 22) (g := w.heap.size + 2) (cells := #[.int .i64 rid, .int .i64 rver, .int .i64 rkind, .string lr, .slice rva RN rvc]) (t := 31) (old := cs)
      case hgd => rfl
      case ho => rfl
      case hx => simp [Act.eval]
      case hy => simp [Act.eval, h0]
      case hg => exact hcs
      case hi => kernel_rfl
      case hold => exact hz
      case h1 => simp [Value.oneCell']
      case h => exact hK.out undef _ hS.2 hS.1
    case o5 =>
      intro vs W hw hd K hK
      obtain ⟨fv, e3, hf⟩ : ∃ fv, vs 3 = .agg #[.int .i64 fid, .int .i64 fver, .int .i64 fkind, .string lp, fv] ∧ FT wr.heap.size fv p.frm.fields W := hd 3 (by kernel_rfl)
      obtain ⟨cs, hcs, hz⟩ := hw.shp _ _ HP0.out
      have hS := Ra.rowP (n0 := w.heap.size) (r := w.heap.size + 2) (X := Xr) hcs (HYp.out fv) hz.symm hf (by omega) (by omega) HRp.out
      obtain ⟨ao, co, hso⟩ := hf.form
      subst hso
      apply step_store_row16 (ty := 31) (x := .tmp 5) (y := .tmp 25) (g := w.heap.size + 3) (cells := #[.int .i64 fid, .int .i64 fver, .int .i64 fkind, .string lp, .slice ao p.frm.fields.length co]) (t := 31) (old := cs)
      case hgd => rfl
      case ho => rfl
      case hx => simp [Act.eval]
      case hy => simp [Act.eval, e3]
      case hg => exact hcs
      case hi => kernel_rfl
      case hold => exact hz
      case h1 => simp [Value.oneCell']
      case h => exact hK.out undef _ hS.2 hS.1
    case o6 =>
      intro vs W hw hd K hK
      go_simp
      exact hK.out _ _ rfl Ra.refl
  case hfin =>
    intro vs W hw hd
    have h4 := hd 4 (by decide)
    have h5 := hd 5 (by decide)
    have h6 : vs 6 = .int .i64 0 := hd 6 (by decide)
    obtain ⟨fv, FA1, FA2, HG⟩ := HEnd.out W hw h4 h5
    have FA1 := Lib.hid FA1
    have FA2 := Lib.hid FA2
    have HG := Lib.hid HG
    simp only [Nat.reduceAdd, h6]
    clear hd h4 h5 h6 hw HEnd cC HBe HPe HR0 HP0
    go_wp2
    (try simp only [Exit.inBlock, Exit.then])
    refine bodyPost_ret (results_three16 rfl _ _ (w.heap.size + 2) (w.heap.size + 3) _ _ _ _ _ _ _ _ rfl rfl FA1.out FA2.out Tryd.underlying31 rfl (by kernel_rfl) Tryd.underlying31 rfl (by kernel_rfl)) rfl ?_
    exact HG.out
end

end Go.Proofs.YtceneblmllpdnaaDoor
