/- Merged: RS16. -/
import Derived.Test.YtceneblmllpdnaaDoorQ23
import Derived.Test.YtceneblmllpdnaaDoorQ12
namespace Go.Proofs.YtceneblmllpdnaaDoor

section
open Go.RowKit Go.PlainAid
set_option maxHeartbeats 16000000 in
set_option maxRecDepth 20000 in
theorem refSame16_any (p : Prt) (fv tv gv sv : Value) (w : World) (hf : FL fv p.frm.fields w) (ht : TL tv p.taken w) (hg : FL gv p.frm.fields w) (hs : TL sv p.taken w) :
    Calls Tryd.prog 16 #[PgV p fv tv, PgV p gv sv] w fun e w' => e = .returned (.bool true) ∧ Below w.heap.size w w' := by
  obtain ⟨W0, hW0⟩ : ∃ W0, (w.alloc (.cells #[.int .i64 p.into, .int .i64 p.frm.id, .int .i64 p.frm.ver, .int .i64 p.frm.kind, .string (S p.frm.lang), fv, tv] 36)).alloc (.cells #[.int .i64 p.into, .int .i64 p.frm.id, .int .i64 p.frm.ver, .int .i64 p.frm.kind, .string (S p.frm.lang), gv, sv] 36) = W0 := ⟨_, rfl⟩
  have b0 : Below w.heap.size w W0 := by rw [← hW0]; exact ((Below.refl w.heap.size w).alloc (Nat.le_refl _) _).alloc (by simp) _
  have hX : W0.heap[w.heap.size]? = some (.cells #[.int .i64 p.into, .int .i64 p.frm.id, .int .i64 p.frm.ver, .int .i64 p.frm.kind, .string (S p.frm.lang), fv, tv] 36 (0, 0)) := by
    rw [← hW0]
    exact (Below.heap_alloc _ _ _ (by simp)).trans (heap_alloc_new w _)
  have hY : W0.heap[w.heap.size + 1]? = some (.cells #[.int .i64 p.into, .int .i64 p.frm.id, .int .i64 p.frm.ver, .int .i64 p.frm.kind, .string (S p.frm.lang), gv, sv] 36 (0, 0)) := by
    rw [← hW0]
    have := heap_alloc_new (w.alloc (.cells #[.int .i64 p.into, .int .i64 p.frm.id, .int .i64 p.frm.ver, .int .i64 p.frm.kind, .string (S p.frm.lang), fv, tv] 36)) (.cells #[.int .i64 p.into, .int .i64 p.frm.id, .int .i64 p.frm.ver, .int .i64 p.frm.kind, .string (S p.frm.lang), gv, sv] 36)
    simpa using this
  have cS := Lib.hid (refSame08_any p.frm p.frm fv gv W0 (hf.after b0) (hg.after b0) true ((sameRB_iff _ _).2 rfl))
  obtain ⟨fa, fc, rfl, -, -⟩ := hf.length
  obtain ⟨ga, gc, rfl, -, -⟩ := hg.length
  obtain ⟨ta, tc, tg, tO, rfl, htc, htm, htg, htx⟩ := ht.opened
  obtain ⟨sa, sc, sg, sO, rfl, hsc, hsm, hsg, hsx⟩ := hs.opened
  unfold maxLen at htm hsm
  unfold RV at cS
  unfold PgV
  obtain ⟨n, hn⟩ : ∃ n, p.taken.length = n := ⟨_, rfl⟩
  rw [hn] at htc htg hsc hsg htx hsx hW0 hX hY ⊢
  have HTX := Lib.hid (fun W (h : Below W0.heap.size W0 W) i (hi : i < n) => htx W (b0.trans (h.mono b0.size)) i hi)
  have HSX := Lib.hid (fun W (h : Below W0.heap.size W0 W) i (hi : i < n) => hsx W (b0.trans (h.mono b0.size)) i hi)
  have HX := Lib.hid (fun (W : World) (h : Below W0.heap.size W0 W) => (h.block _ (Array.getElem?_eq_some_iff.1 hX).1).trans hX)
  have HY := Lib.hid (fun (W : World) (h : Below W0.heap.size W0 W) => (h.block _ (Array.getElem?_eq_some_iff.1 hY).1).trans hY)
  have HW0 := Lib.hid hW0
  have HB0 := Lib.hid b0
  obtain ⟨⟨x0, x1, x2, x3, x4, x5, x6⟩, -⟩ := pcells16 hX
  obtain ⟨⟨y0, y1, y2, y3, y4, y5, y6⟩, -⟩ := pcells16 hY
  clear hf ht hg hs htx hsx hn hW0 hX hY b0
  obtain ⟨fn, hfn⟩ : ∃ x, p.frm.fields.length = x := ⟨_, rfl⟩
  rw [hfn] at cS HX HY HW0 x5 y5 ⊢
  generalize S p.frm.lang = lp at *
  generalize p.frm.id = pid at *
  generalize p.frm.ver = pver at *
  generalize p.frm.kind = pkind at *
  generalize p.into = pin at *
  clear hfn
  go_enter Tryd.func16, Tryd.ntmps16
  go_upto_region 1 with fail
  (try rw [HW0.out])
  clear HW0
  go_wp2_with fail
  refine cS.out.mono ?_
  rintro e w1 ⟨rfl, hb1⟩
  clear x0 x1 x2 x3 x4 x5 x6 y0 y1 y2 y3 y4 y5 y6 cS
  have HB1 := Lib.hid hb1
  obtain ⟨⟨x0, x1, x2, x3, x4, x5, x6⟩, -⟩ := pcells16 (HX.out w1 hb1)
  obtain ⟨⟨y0, y1, y2, y3, y4, y5, y6⟩, -⟩ := pcells16 (HY.out w1 hb1)
  clear hb1
  go_wp2
  clear x0 x1 x2 x3 x4 x5 x6 y0 y1 y2 y3 y4 y5 y6
  go_loopw [5] (fun s5 wr => ∃ k : Nat, s5 = .int .i64 (k : Int) ∧ k ≤ n ∧ RowKit.Hid (Below W0.heap.size W0 wr)) (fun s5 _ => n - (intOf s5).toNat)
  case atStart => exact ⟨0, rfl, Nat.zero_le _, HB1.out⟩
  case round =>
    obtain ⟨k, rfl, hk, HB⟩ := hrel
    have i1 : (0 : Int) ≤ (k : Int) := by omega
    obtain ⟨⟨-, -, -, -, -, -, x6⟩, -⟩ := pcells16 (HX.out wr HB.out)
    obtain ⟨⟨-, -, -, -, -, -, y6⟩, -⟩ := pcells16 (HY.out wr HB.out)
    by_cases hkn : k < n
    · have i2 : (k : Int) < (n : Int) := by omega
      obtain ⟨rfl, -⟩ := htg (by omega)
      obtain ⟨rfl, -⟩ := hsg (by omega)
      have c1 := HTX.out wr HB.out k hkn
      have c2 := HSX.out wr HB.out k hkn
      generalize p.taken.getD k 0 = y at *
      have HBd : RowKit.Hid (Below W0.heap.size W0 wr.drew) := HB.out.drew
      go_wp2_with (go_region)
      go_roundw
      case rel => exact ⟨k + 1, by go_num, by omega, HBd.out⟩
      case measure => simp [intOf]; omega
    · obtain rfl : k = n := by omega
      have HF := Lib.hid (HB0.out.trans (HB.out.mono HB0.out.size))
      go_wp2
      go_ret
      exact ⟨rfl, HF.out⟩
end

end Go.Proofs.YtceneblmllpdnaaDoor
