/- Merged: KN16. -/
import Derived.Test.YtceneblmllpdnaaDoorQ09
import Derived.Test.YtceneblmllpdnaaDoorQ14
import Derived.Test.YtceneblmllpdnaaDoorQ23
import Derived.BigRegion
namespace Go.Proofs.YtceneblmllpdnaaDoor

section
open Go.RowKit Go.PlainAid
def NtoI (L : List Nat) : List Int := L.map fun k : Nat => (k : Int)
theorem goM_len (I : List Fld) (l : List Kp) : ∀ (F : List Fld) (i : Nat) (st : List Fld × List Nat), (goM I l F i st).1.length ≤ st.1.length + F.length ∧ (goM I l F i st).2.length ≤ st.2.length + F.length
  | [], _, _ => ⟨Nat.le_refl _, Nat.le_refl _⟩
  | f :: F, i, st => by
    have h := goM_len I l F (i + 1) (if takeB I st.1 l f = true then (st.1 ++ [f], st.2 ++ [i]) else st)
    rw [goM]
    split at h
    · rename_i hc
      rw [if_pos hc]
      simp only [List.length_append, List.length_cons, List.length_nil] at h ⊢
      omega
    · rename_i hc
      rw [if_neg hc]
      simp only [List.length_cons] at h ⊢
      omega
theorem merge_len (I F : List Fld) (l : List Kp) : (mergeF I F l).1.length ≤ I.length + F.length ∧ (mergeF I F l).2.length ≤ F.length := by
  have := goM_len I l F 0 (I, [])
  unfold mergeF
  simpa using this
theorem KpF.grownI {B B3 : Nat} {w0 W : World} {v : Value} {L : List Int} {y : Value} (h : TR B3 v L w0) (hg : (w0.alloc (.cells #[y] 3)).grownBy W v.ownBlock) : KpF B w0 W :=
  ⟨Nat.le_trans (by simp) hg.size, fun b cs t fr _ hb ht => by
    have hl := (Array.getElem?_eq_some_iff.1 hb).1
    refine (hg.block b (by simp; omega) (fun e => ?_)).trans (Below.heap_alloc _ _ _ hl)
    obtain ⟨-, -, cs', hc⟩ := h.blk b e.symm
    rw [hb] at hc
    injection Option.some.inj hc with e1 e2
    rcases ht with e3 | e3
    · rw [e3] at e2; exact absurd e2 (by decide)
    · rw [e3] at e2; exact absurd e2 (by decide)⟩
/-- A block of another type stays when an integer is appended. -/
theorem TR.other {B3 : Nat} {w0 W : World} {v : Value} {L : List Int} {y : Value} (h : TR B3 v L w0) (hg : (w0.alloc (.cells #[y] 3)).grownBy W v.ownBlock) {b : Nat} {cs : Array Value} {t : TypeId} {fr : Nat × Nat} (hb : w0.heap[b]? = some (.cells cs t fr)) (ht : t ≠ 3) : W.heap[b]? = some (.cells cs t fr) := by
  have hl := (Array.getElem?_eq_some_iff.1 hb).1
  refine (hg.block b (by simp; omega) (fun e => ?_)).trans ((Below.heap_alloc _ _ _ hl).trans hb)
  obtain ⟨-, -, cs', hc⟩ := h.blk b e.symm
  rw [hb] at hc
  injection Option.some.inj hc with e1 e2
  exact ht e2

theorem TR.base {B B' : Nat} {v : Value} {L : List Int} {w : World} (h : TR B' v L w) (hB : B ≤ B') : TR B v L w := by
  refine ⟨h.1, ?_⟩
  rcases h.2 with hn | ⟨g, cap, cur, hv, hb, rest⟩
  · exact .inl hn
  · exact .inr ⟨g, cap, cur, hv, Nat.le_trans hB hb, rest⟩
/-- What the program's Merge answers: rows of the call's own. -/
def MrgT (a b : Rec) (l : List Kp) (w : World) (e : Ending) (w' : World) : Prop :=
  ∃ mv fv tv, e = .returned (.tuple #[RV (mrgR a b l) mv, PgV (mrgP a b l) fv tv, .int .i64 (errM a b l)]) ∧ FT w.heap.size mv (mrgR a b l).fields w' ∧ FT w.heap.size fv (mrgP a b l).frm.fields w' ∧ TR w.heap.size tv (mrgP a b l).taken w' ∧ Below w.heap.size w w'
theorem MrgT.err {a b : Rec} {l : List Kp} {w w' : World} (e : Int) (h : errM a b l = e) (h0 : e ≠ 0) (hb : Below w.heap.size w w') :
    MrgT a b l w (.returned (.tuple #[.agg #[.int .i64 0, .int .i64 0, .int .i64 0, .string ⟨#[]⟩, .slice none 0 0], .agg #[.int .i64 0, .int .i64 0, .int .i64 0, .int .i64 0, .string ⟨#[]⟩, .slice none 0 0, .slice none 0 0], .int .i64 e])) w' := by
  have h1 : ¬ errM a b l = 0 := by rw [h]; exact h0
  have e1 : mrgR a b l = rec0 := by unfold mrgR; rw [if_neg h1]
  have e2 : mrgP a b l = prt0 := by unfold mrgP; rw [if_neg h1]
  refine ⟨.slice none 0 0, .slice none 0 0, .slice none 0 0, ?_, ?_, ?_, ?_, hb⟩
  · rw [e1, e2, h]; rfl
  · rw [e1]; exact FT.nil _ _
  · rw [e2]; exact FT.nil _ _
  · rw [e2]; exact TR.nil _ _
theorem MrgT.q {a b : Rec} {l : List Kp} {w w' : World} {e : Ending} (h : MrgT a b l w e w') : MrgQ a b l w e w' := by
  obtain ⟨mv, fv, tv, h1, h2, h3, h4, h5⟩ := h
  exact ⟨mv, fv, tv, h1, fun W hs hb => ⟨(h2.kept (KpF.of hs hb)).fl, (h3.kept (KpF.of hs hb)).fl, (h4.keptT (fun i cs hi hc => hb i hi (Array.getElem?_eq_some_iff.1 hc).1)).tl⟩, h5⟩

set_option maxHeartbeats 64000000 in
set_option maxRecDepth 100000 in
theorem pMerge_any (a b : Rec) (l : List Kp) (u v kv : Value) (w : World) (hE : Env w) (hu : FL u a.fields w) (hv : FL v b.fields w) (hk : KpL kv l w) (ha : BndR a) (hb : BndR b) :
    Calls Tryd.prog 13 #[RV a u, RV b v, kv] w fun e w' => MrgT a b l w e w' := by
  obtain ⟨Q, hQ⟩ : ∃ Q, (fun (e : Ending) (w' : World) => MrgT a b l w e w') = Q := ⟨_, rfl⟩
  rw [hQ]
  have HErr : RowKit.Hid (∀ (e : Int) (W : World), (errM a b l = e ∧ e ≠ 0) → Below w.heap.size w W → Q (.returned (.tuple #[.agg #[.int .i64 0, .int .i64 0, .int .i64 0, .string ⟨#[]⟩, .slice none 0 0], .agg #[.int .i64 0, .int .i64 0, .int .i64 0, .int .i64 0, .string ⟨#[]⟩, .slice none 0 0, .slice none 0 0], .int .i64 e])) W) := by
    rw [← hQ]
    exact fun e W h hb => MrgT.err e h.1 h.2 hb
  have HOk : RowKit.Hid (errM a b l = 0 → ∀ (mv fv tv : Value) (W : World), (FT w.heap.size mv (mergeF a.fields b.fields l).1 W ∧ FT w.heap.size fv b.fields W ∧ TR w.heap.size tv (NtoI (mergeF a.fields b.fields l).2) W) → Below w.heap.size w W →
      Q (.returned (.tuple #[.agg #[.int .i64 a.id, .int .i64 a.ver, .int .i64 a.kind, .string (S a.lang), mv], .agg #[.int .i64 a.id, .int .i64 b.id, .int .i64 b.ver, .int .i64 b.kind, .string (S b.lang), fv, tv], .int .i64 0])) W) := by
    rw [← hQ]
    intro h mv fv tv W hn hb
    have e1 : mrgR a b l = { a with fields := (mergeF a.fields b.fields l).1 } := by unfold mrgR; rw [if_pos h]
    have e2 : mrgP a b l = ⟨a.id, b, NtoI (mergeF a.fields b.fields l).2⟩ := by unfold mrgP; rw [if_pos h]; rfl
    refine ⟨mv, fv, tv, ?_, ?_, ?_, ?_, hb⟩
    · rw [e1, e2, h]; rfl
    · rw [e1]; exact hn.1
    · rw [e2]; exact hn.2.1
    · rw [e2]; exact hn.2.2
  have HPre := Lib.hid (errM_pre a b l)
  obtain ⟨e0, he0⟩ : ∃ e, preM a b = e := ⟨_, rfl⟩
  rw [he0] at HPre
  have m0 := M4.first w a u b v
  obtain ⟨W0, hW0⟩ : ∃ W0, M4W w a u b v = W0 := ⟨_, rfl⟩
  rw [hW0] at m0
  have cM := Lib.hid (pMergeable_any a b u v W0 (hE.after m0.bel) (hu.after m0.bel) (hv.after m0.bel) ha hb e0 he0)
  have cA := Lib.hid (fun (W : World) (h : Below w.heap.size w W) => mclone_any a u W (hu.after h) (by have := ha.fields; omega) (fun f hf => by have := ha.subs f hf; omega))
  have cB := Lib.hid (fun (W : World) (h : Below w.heap.size w W) => mclone_any b v W (hv.after h) (by have := hb.fields; omega) (fun f hf => by have := hb.subs f hf; omega))
  have cHow := Lib.hid (fun (W : World) (h : Below w.heap.size w W) (t : List UInt8) => pHow16_any l kv t W (hk.after h))
  have cTak := Lib.hid (fun (W : World) (h : Below w.heap.size w W) (X : List Fld) (mu : Value) (f : Fld) (fu : Value) (hh : Int) (hm : FL mu X W) (hf : QL fu f.subs W) (r : Bool) (hr : takP a.fields X hh f = r) =>
    show Calls Tryd.prog 28 #[RV a u, .agg #[.int .i64 a.id, .int .i64 a.ver, .int .i64 a.kind, .string (S a.lang), mu], FV f fu, .int .i64 hh] W fun e w' => e = .returned (.bool r) ∧ Below W.heap.size W w' from pTakes_any a { a with fields := X } u mu f fu hh W (hu.after h) hm hf r hr)
  have HFs := Lib.hid (fun (f : Fld) (h : f ∈ b.fields) => hb.subs f h)
  obtain ⟨va, vc, gv, ov, us, hva, hvc, hvm, hvg, hvx⟩ := hv.open16
  obtain ⟨ua, uc, hua, hu1, hu2⟩ := hu.length
  obtain ⟨ka, kc, gk, ok, hka, hk1, hk2, -, -⟩ := hk.opened
  have HStep := Lib.hid (fun i (h : i < b.fields.length) => merge_step a.fields b.fields l fd0 i h)
  have HLen := Lib.hid (fun i => merge_len a.fields (b.fields.take i) l)
  have hal := ha.fields
  have hbl := hb.fields
  have HM0 := Lib.hid m0
  have HMx := Lib.hid (fun (W : World) (h : M4 w a u b v W) => h.x)
  have HMy := Lib.hid (fun (W : World) (h : M4 w a u b v W) => h.y)
  unfold M4W at hW0
  unfold RV at *
  obtain ⟨n, hn⟩ : ∃ n, b.fields.length = n := ⟨_, rfl⟩
  have HN := Lib.hid hn
  rw [hn] at hva hvc hvg hvx HStep hbl
  have HVX := Lib.hid hvx
  unfold maxLen at hvm
  have HW0 := Lib.hid hW0
  obtain ⟨⟨x0, x1, x2, x3, x4⟩, -⟩ := rcells m0.x
  obtain ⟨⟨y0, y1, y2, y3, y4⟩, -⟩ := rcells m0.y
  subst hva hua hka
  clear hQ he0 hW0 m0 hE hu hv hk ha hb hvx hn hk1 hk2
  generalize S a.lang = la at *
  generalize S b.lang = lb at *
  generalize a.id = aid at *
  generalize b.id = bid at *
  generalize a.ver = aver at *
  generalize b.ver = bver at *
  generalize a.kind = akind at *
  generalize b.kind = bkind at *
  go_enter Tryd.func13, Tryd.ntmps13
  go_upto_region 1 with fail
  rw [HW0.out]
  clear HW0
  go_wp2_with fail
  refine cM.out.mono ?_
  rintro e w1 ⟨rfl, hb1⟩
  have m1 := HM0.out.after hb1
  clear x0 x1 x2 x3 x4 y0 y1 y2 y3 y4 hb1 HM0 cM
  by_cases h0 : e0 = 0
  · subst h0
    have HM1 := Lib.hid m1
    obtain ⟨⟨x0, x1, x2, x3, x4⟩, -⟩ := rcells (HMx.out _ m1)
    clear m1
    go_wp2_with fail
    refine (cA.out w1 HM1.out.bel).mono ?_
    rintro e w2 ⟨mv0, rfl, hf2, hb2, hsz2⟩
    have m2 := HM1.out.after hb2
    obtain ⟨B, hB⟩ : ∃ B, w1.heap.size + 2 = B := ⟨_, rfl⟩
    rw [hB] at hf2
    have hB4 : w.heap.size + 4 ≤ B := by have := HM1.out.size; omega
    obtain ⟨ma0, mc0, rfl⟩ := hf2.form
    obtain ⟨W3, hW3⟩ : ∃ W3, w2.alloc (.cells #[.int .i64 aid, .int .i64 aver, .int .i64 akind, .string la, .slice ma0 a.fields.length mc0] 31) = W3 := ⟨_, rfl⟩
    have b3 : Below w2.heap.size w2 W3 := by rw [← hW3]; exact (Below.refl _ _).alloc (Nat.le_refl _) _
    obtain ⟨bM, hbM⟩ : ∃ x, w2.heap.size = x := ⟨_, rfl⟩
    have hBx3 : W3.heap[bM]? = some (.cells #[.int .i64 aid, .int .i64 aver, .int .i64 akind, .string la, .slice ma0 a.fields.length mc0] 31 (0, 0)) := by rw [← hW3, ← hbM]; exact heap_alloc_new w2 _
    have hBM : w.heap.size + 4 ≤ bM := by have := m2.size; omega
    have hBbM : B ≤ bM + 2 := by have := hb2.size; omega
    obtain ⟨B3, hB3⟩ : ∃ x, W3.heap.size = x := ⟨_, rfl⟩
    have hbM3 : bM + 1 = B3 := by rw [← hB3, ← hW3, ← hbM]; simp
    have HM3 := Lib.hid (m2.after b3)
    have HF3 := Lib.hid (hf2.after b3)
    have HX3 := Lib.hid hBx3
    have HBs := Lib.hid (show w.heap.size + 4 ≤ B ∧ w.heap.size + 4 ≤ bM ∧ bM < B3 ∧ w.heap.size + 4 ≤ B3 from ⟨hB4, hBM, by omega, by omega⟩)
    have HB3 := Lib.hid hB3
    have HBB := Lib.hid (show B ≤ B3 from by omega)
    clear m2 hf2 hb2 hsz2 hBx3 hB4 hBM hBbM hbM3 hB3 hB x0 x1 x2 x3 x4 cA b3
    obtain ⟨⟨y0, y1, y2, y3, y4⟩, -⟩ := rcells (HMy.out _ HM3.out)
    go_upto_region 5 with fail
    (try rw [hW3])
    (try rw [hbM])
    clear hW3 hbM
    go_wp2
    clear y0 y1 y2 y3 y4
    go_loopw [11, 27] (fun s11 s27 wr => ∃ k : Nat, s27 = .int .i64 (k : Int) ∧ k ≤ n ∧ RowKit.Hid (∃ mv, FT B mv (mergeF a.fields (b.fields.take k) l).1 wr ∧ wr.heap[bM]? = some (.cells #[.int .i64 aid, .int .i64 aver, .int .i64 akind, .string la, mv] 31 (0, 0))) ∧
      RowKit.Hid (TR B3 s11 (NtoI (mergeF a.fields (b.fields.take k) l).2) wr) ∧ RowKit.Hid (M4 w a (.slice ua a.fields.length uc) b (.slice va n vc) wr) ∧ RowKit.Hid (B3 ≤ wr.heap.size)) (fun _ s27 _ => n - (intOf s27).toNat)
    case atStart => exact ⟨0, rfl, Nat.zero_le _, ⟨_, HF3.out, HX3.out⟩, TR.nil _ _, HM3.out, Nat.le_of_eq HB3.out.symm⟩
    case round =>
      obtain ⟨k, rfl, hk, HFT0, HTR, HM, HS3⟩ := hrel
      clear HM3 HF3 HX3 HM1
      obtain ⟨mv, hft, hbox⟩ := HFT0.out
      clear HFT0
      by_cases hkn : k < n
      · have i1 : (0 : Int) ≤ (k : Int) := by omega
        have i2 : (k : Int) < (n : Int) := by omega
        obtain rfl := hvg (by omega)
        obtain ⟨⟨c0, c1, c2, c3⟩, hq⟩ := HVX.out wr HM.out.bel k hkn
        have hst := HStep.out k hkn
        have hmem : b.fields.getD k fd0 ∈ b.fields := by
          rw [List.getD_eq_getElem?_getD, List.getElem?_eq_getElem (by rw [HN.out]; exact hkn)]
          exact List.getElem_mem _
        obtain ⟨f, hf⟩ : ∃ f, b.fields.getD k fd0 = f := ⟨_, rfl⟩
        rw [hf] at c0 c1 c3 hq hst hmem
        have hfs := HFs.out f hmem
        obtain ⟨xa, xc, hxu, -, -⟩ := hq.length
        rw [hxu] at c2 hq
        obtain ⟨ML, hML⟩ : ∃ x, (mergeF a.fields (b.fields.take k) l).1 = x := ⟨_, rfl⟩
        obtain ⟨Tk, hTk⟩ : ∃ x, (mergeF a.fields (b.fields.take k) l).2 = x := ⟨_, rfl⟩
        have hlen := HLen.out k
        have hpair : mergeF a.fields (b.fields.take k) l = (ML, Tk) := by rw [← hML, ← hTk]
        rw [hML, hTk, List.length_take] at hlen
        rw [hML] at hft
        rw [hTk] at HTR
        rw [hpair] at hst
        obtain ⟨ma, mc, rfl⟩ := hft.form
        obtain ⟨wb, hwb⟩ : ∃ W, wr.alloc (.cells #[.string (S f.tag), .string (S f.ind), .slice xa f.subs.length xc, .int .i64 f.auth] 45) = W := ⟨_, rfl⟩
        have bb : Below wr.heap.size wr wb := by rw [← hwb]; exact (Below.refl _ _).alloc (Nat.le_refl _) _
        have hFx : wb.heap[wr.heap.size]? = some (.cells #[.string (S f.tag), .string (S f.ind), .slice xa f.subs.length xc, .int .i64 f.auth] 45 (0, 0)) := by rw [← hwb]; exact heap_alloc_new wr _
        have hmb := HM.out.after bb
        have hftb := hft.after bb
        have hboxb := (bb.block bM (Array.getElem?_eq_some_iff.1 hbox).1).trans hbox
        have htrb := HTR.out.after bb
        obtain ⟨bf, hbf⟩ : ∃ x, wr.heap.size = x := ⟨_, rfl⟩
        rw [hbf] at hFx
        have hbfl : bf < wb.heap.size := (Array.getElem?_eq_some_iff.1 hFx).1
        have hbne : bf ≠ bM := fun e => by
          subst e
          rw [hboxb] at hFx
          injection Option.some.inj hFx with e1 e2
          exact absurd e2 (by decide)
        obtain ⟨h, hh⟩ : ∃ h, howK l f.tag = h := ⟨_, rfl⟩
        obtain ⟨tk, htk⟩ : ∃ t, takP a.fields ML h f = t := ⟨_, rfl⟩
        have htB : takeB a.fields ML l f = tk := by rw [← htk, ← hh]; rfl
        rw [htB] at hst
        have cH := Lib.hid (fun (W : World) (hw : Below wb.heap.size wb W) => cHow.out W (hmb.bel.trans (hw.mono hmb.bel.size)) f.tag)
        rw [hh] at cH
        have cT := Lib.hid (fun (W : World) (hw : Below wb.heap.size wb W) => cTak.out W (hmb.bel.trans (hw.mono hmb.bel.size)) ML (.slice ma ML.length mc) f (.slice xa f.subs.length xc) h (hftb.after hw).fl ((hq.after bb).after hw) tk htk)
        have cC := Lib.hid (fun (W : World) (hw : Below wb.heap.size wb W) => mcloneF_any f (.slice xa f.subs.length xc) W ((hq.after bb).after hw) (by omega))
        have HMr := Lib.hid (fun (W : World) (hw : Below wb.heap.size wb W) => hmb.after hw)
        have HMrx := Lib.hid (fun (W : World) (hw : Below wb.heap.size wb W) => HMx.out W (hmb.after hw))
        have HFTr := Lib.hid (fun (W : World) (hw : Below wb.heap.size wb W) => hftb.after hw)
        have HTRr := Lib.hid (fun (W : World) (hw : Below wb.heap.size wb W) => htrb.after hw)
        have HBoxr := Lib.hid (fun (W : World) (hw : Below wb.heap.size wb W) => (hw.block bM (Array.getElem?_eq_some_iff.1 hboxb).1).trans hboxb)
        have HFxr := Lib.hid (fun (W : World) (hw : Below wb.heap.size wb W) => (hw.block bf hbfl).trans hFx)
        have HFne := Lib.hid (fun (W : World) (_ : Below wb.heap.size wb W) => show some bf ≠ (Value.slice ma ML.length mc).ownBlock from fun e => by
          have h1 := (hft.lt bf e.symm).2
          obtain ⟨cs, h2⟩ := h1
          have := (Array.getElem?_eq_some_iff.1 h2).1
          omega)
        have HSr := Lib.hid (show B3 ≤ wb.heap.size from Nat.le_trans HS3.out bb.size)
        have HSt := Lib.hid hst
        have HLz : RowKit.Hid (ML.length ≤ 100000 ∧ Tk.length ≤ 100000) := ⟨by omega, by omega⟩
        have HFV : RowKit.Hid (∀ x, FV f x = .agg #[.string (S f.tag), .string (S f.ind), x, .int .i64 f.auth]) := fun _ => rfl
        have HFu : RowKit.Hid (S f.tag = S f.tag ∧ S f.ind = S f.ind ∧ f.auth = f.auth) := ⟨rfl, rfl, rfl⟩
        have HPair := Lib.hid hpair
        unfold FV at cT cC
        obtain ⟨ft, hft1⟩ : ∃ x, S f.tag = x := ⟨_, rfl⟩
        obtain ⟨fi, hft2⟩ : ∃ x, S f.ind = x := ⟨_, rfl⟩
        obtain ⟨fau, hft3⟩ : ∃ x, f.auth = x := ⟨_, rfl⟩
        rw [hft1] at c0 cT cC HFxr cH HFV hwb
        rw [hft2] at c1 cT cC HFxr HFV hwb
        rw [hft3] at c3 cT cC HFxr HFV hwb
        have HFu := Lib.hid (show S f.tag = ft ∧ S f.ind = fi ∧ f.auth = fau from ⟨hft1, hft2, hft3⟩)
        have HWb := Lib.hid hwb
        clear hst hmem hf hfs hq hxu hlen hML hTk hpair hft hbox bb hFx hmb hftb hboxb htrb hh htk hft1 hft2 hft3 hbfl hwb HM HTR htB
        go_upto_region 9 with fail
        rw [HWb.out]
        (try rw [hbf])
        clear c0 c1 c2 c3 HWb
        apply wp_region_inv (V := [.eq (.agg #[.int .i64 aid, .int .i64 aver, .int .i64 akind, .string la, .slice ua a.fields.length uc]), .eq (.agg #[.int .i64 aid, .int .i64 aver, .int .i64 akind, .string la, .slice ma ML.length mc]), .eq (.agg #[.string ft, .string fi, .slice xa f.subs.length xc, .int .i64 fau]), .eq (.slice ka l.length kc), .eq (.pointer (some ⟨bf, 0, none⟩)), .eq (.string ft), .eq (.int .i64 h), .eq (.bool tk)])
        case hm => kernel_rfl
        case hd => kernel_rfl
        case hb => kernel_rfl
        case hA =>
          intro vs
          simp only [puts, Act.put, List.setIfInBounds_toArray, List.set_cons_zero, List.set_cons_succ]
          exact rfl
        case hob =>
          refine Obs.cons _ _ _ _ _ _ ?o0 (Obs.cons _ _ _ _ _ _ ?o1 (Obs.cons _ _ _ _ _ _ ?o2 (Obs.cons _ _ _ _ _ _ ?o3 (Obs.cons _ _ _ _ _ _ ?o4 (Obs.cons _ _ _ _ _ _ ?o5 (Obs.cons _ _ _ _ _ _ ?o6 (Obs.cons _ _ _ _ _ _ ?o7 (Obs.nil _ _ _ _ _ _))))))))
          case o0 =>
            intro vs W hw hd K hK
            obtain ⟨⟨x0, x1, x2, x3, x4⟩, -⟩ := rcells (HMrx.out W hw)
            go_simp
            exact hK.out _ _ rfl (Below.refl _ _)
          case o1 =>
            intro vs W hw hd K hK
            obtain ⟨⟨m0, m1, m2, m3, m4⟩, -⟩ := rcells (HBoxr.out W hw)
            go_simp
            exact hK.out _ _ rfl (Below.refl _ _)
          case o2 =>
            intro vs W hw hd K hK
            obtain ⟨⟨f0, f1, f2, f3⟩, -⟩ := fcells4 (HFxr.out W hw)
            go_simp
            exact hK.out _ _ rfl (Below.refl _ _)
          case o3 =>
            intro vs W hw hd K hK
            go_simp
            exact hK.out _ _ rfl (Below.refl _ _)
          case o4 =>
            intro vs W hw hd K hK
            go_simp
            exact hK.out _ _ rfl (Below.refl _ _)
          case o5 =>
            intro vs W hw hd K hK
            have h4 : vs 4 = .pointer (some ⟨bf, 0, none⟩) := hd 4 (by kernel_rfl)
            obtain ⟨⟨f0, f1, f2, f3⟩, -⟩ := fcells4 (HFxr.out W hw)
            simp only [Nat.reduceAdd, h4] at hK ⊢
            go_simp
            exact hK.out _ _ rfl (Below.refl _ _)
          case o6 =>
            intro vs W hw hd K hK
            have h3 : vs 3 = .slice ka l.length kc := hd 3 (by kernel_rfl)
            have h5 : vs 5 = .string ft := hd 5 (by kernel_rfl)
            simp only [Nat.reduceAdd, h3, h5] at hK ⊢
            go_simp
            refine (cH.out W hw).mono ?_
            rintro e W' ⟨rfl, hb'⟩
            exact hK.out _ _ rfl hb'
          case o7 =>
            intro vs W hw hd K hK
            have h0 : vs 0 = .agg #[.int .i64 aid, .int .i64 aver, .int .i64 akind, .string la, .slice ua a.fields.length uc] := hd 0 (by kernel_rfl)
            have h1 : vs 1 = .agg #[.int .i64 aid, .int .i64 aver, .int .i64 akind, .string la, .slice ma ML.length mc] := hd 1 (by kernel_rfl)
            have h2 : vs 2 = .agg #[.string ft, .string fi, .slice xa f.subs.length xc, .int .i64 fau] := hd 2 (by kernel_rfl)
            have h6 : vs 6 = .int .i64 h := hd 6 (by kernel_rfl)
            simp only [Nat.reduceAdd, h0, h1, h2, h6] at hK ⊢
            go_simp
            refine (cT.out W hw).mono ?_
            rintro e W' ⟨rfl, hb'⟩
            exact hK.out _ _ rfl hb'
        case hfin =>
          intro vs wq hw hd
          have h7 : vs 7 = .bool tk := hd 7 (by decide)
          simp only [Nat.reduceAdd, h7]
          clear hd h7
          cases tk with
          | false =>
            have hst2 := HSt.out
            rw [if_neg (by simp)] at hst2
            have HFTk : RowKit.Hid (FT B (.slice ma ML.length mc) (mergeF a.fields (b.fields.take (k + 1)) l).1 wq) := by rw [hst2]; exact HFTr.out wq hw
            have HTRk : RowKit.Hid (TR B3 u11 (NtoI (mergeF a.fields (b.fields.take (k + 1)) l).2) wq) := by rw [hst2]; exact HTRr.out wq hw
            have HMk := Lib.hid (HMr.out wq hw)
            have HBk := Lib.hid (HBoxr.out wq hw)
            have HSk := Lib.hid (Nat.le_trans HSr.out hw.size)
            clear hst2 HSt HFTr HTRr HMr HBoxr HSr hw cC cH cT HMrx HFxr HVX hvg
            go_wp2
            go_roundw
            case rel => exact ⟨k + 1, by go_num, by omega, ⟨_, HFTk.out, HBk.out⟩, HTRk.out, HMk.out, HSk.out⟩
            case measure => simp [intOf]; omega
          | true =>
            have hst2 := HSt.out
            rw [if_pos rfl] at hst2
            have HBq : RowKit.Hid (B ≤ wq.heap.size) := Nat.le_trans HBB.out (Nat.le_trans HSr.out hw.size)
            have hFTq := HFTr.out wq hw
            have HFT := Lib.hid hFTq
            have hnB : some bM ≠ (Value.slice ma ML.length mc).ownBlock := hFTq.ne (HBoxr.out wq hw) (by decide)
            have HBoxq := Lib.hid (fun (X : World) (_ : wq.heap.size ≤ X.heap.size) (h : ∀ i, some i ≠ (Value.slice ma ML.length mc).ownBlock → i < wq.heap.size → X.heap[i]? = wq.heap[i]?) => (h bM hnB (Array.getElem?_eq_some_iff.1 (HBoxr.out wq hw)).1).trans (HBoxr.out wq hw))
            have HTRq := Lib.hid (HTRr.out wq hw)
            have HMq := Lib.hid (HMr.out wq hw)
            have HSq := Lib.hid (Nat.le_trans HSr.out hw.size)
            have HFxq := Lib.hid (fun (X : World) (_ : wq.heap.size ≤ X.heap.size) (h : ∀ i, some i ≠ (Value.slice ma ML.length mc).ownBlock → i < wq.heap.size → X.heap[i]? = wq.heap[i]?) =>
              show X.heap[bf]? = some (.cells #[.string ft, .string fi, .slice xa f.subs.length xc, .int .i64 fau] 45 (0, 0)) from (h bf (fun e => HFne.out wq hw e) (Array.getElem?_eq_some_iff.1 (HFxr.out wq hw)).1).trans (HFxr.out wq hw))
            have cCq := Lib.hid (fun (X : World) (h : Below wq.heap.size wq X) => cC.out X (hw.trans (h.mono hw.size)))
            clear hFTq cH cT HMr HMrx HFTr HTRr HSr HVX hvg HSt HFxr HBoxr cC
            have HL1 := Lib.hid HLz.out.1
            go_upto_region 10 with fail
            apply wp_region_imp (imp := fun i => decide (i ∈ [3, 4, 5])) (X := fun d vs W => Xm B wq (.slice ma ML.length mc) ML f d vs W) (V := [(fun v => v = .pointer (some ⟨bM, 4, none⟩)), (fun v => v = .slice ma ML.length mc), (fun v => v = .agg #[.string ft, .string fi, .slice xa f.subs.length xc, .int .i64 fau]), (fun _ => True), (fun _ => True), (fun _ => True), (fun v => v = .pointer (some ⟨bM, 4, none⟩))]) (n := 7) (f := 6)
            case hX0 => exact fun vs => Xm.init vs
            case hXst => exact fun d vs u w h hb => h.below HBq.out hb
            case hXo =>
              intro d vs w i v hi h
              have hi := of_decide_eq_false hi
              simp only [List.mem_cons, List.not_mem_nil, or_false, not_or] at hi
              exact h.other i v (by omega)
            case hm => kernel_rfl
            case hd => kernel_rfl
            case hb => kernel_rfl
            case hA =>
              intro vs
              simp only [puts, Act.put, List.setIfInBounds_toArray, List.set_cons_zero, List.set_cons_succ]
              exact rfl
            case hlast => kernel_rfl
            case hol => exact rfl
            case hob =>
              refine ObsI.cons _ _ _ _ _ _ _ ?o0 (ObsI.cons _ _ _ _ _ _ _ ?o1 (ObsI.cons _ _ _ _ _ _ _ ?o2 (ObsI.cons _ _ _ _ _ _ _ ?o3 (ObsI.cons _ _ _ _ _ _ _ ?o4 (ObsI.cons _ _ _ _ _ _ _ ?o5 (ObsI.cons _ _ _ _ _ _ _ ?o6 (ObsI.nil _ _ _ _ _ _ _)))))))
              case o0 =>
                intro d vs W hdk hdep hcl hv hX K hK
                go_simp
                exact hK.out _ _ (fun h => absurd h (by decide)) (fun _ => ⟨rfl, Below.refl _ _⟩)
              case o1 =>
                intro d vs W hdk hdep hcl hv hX K hK
                have h0 : vs 0 = .pointer (some ⟨bM, 4, none⟩) := hv 0 (by kernel_rfl) (by decide)
                obtain ⟨⟨m0, m1, m2, m3, m4⟩, -⟩ := rcells (HBoxq.out W hX.size (fun i hi hl => hX.but i hi hl))
                simp only [Nat.reduceAdd, h0] at hK ⊢
                go_simp
                exact hK.out _ _ (fun h => absurd h (by decide)) (fun _ => ⟨rfl, Below.refl _ _⟩)
              case o2 =>
                intro d vs W hdk hdep hcl hv hX K hK
                obtain ⟨⟨f0, f1, f2, f3⟩, -⟩ := fcells4 (HFxq.out W hX.size (fun i hi hl => hX.but i hi hl))
                go_simp
                exact hK.out _ _ (fun h => absurd h (by decide)) (fun _ => ⟨rfl, Below.refl _ _⟩)
              case o3 =>
                intro d vs W hdk hdep hcl hv hX K hK
                have h2 : vs 2 = .agg #[.string ft, .string fi, .slice xa f.subs.length xc, .int .i64 fau] := hv 2 (by kernel_rfl) (by decide)
                have hn4 : d 4 = false := by
                  cases hq : d 4 with
                  | false => rfl
                  | true => exact absurd (hcl 4 _ 3 rfl (by kernel_rfl) hq) (by rw [hdk]; decide)
                have hn5 : d 5 = false := by
                  cases hq : d 5 with
                  | false => rfl
                  | true => exact absurd (hcl 5 _ 4 rfl (by kernel_rfl) hq) (by rw [hn4]; decide)
                simp only [Nat.reduceAdd, h2] at hK ⊢
                go_simp
                refine (cCq.out W (hX.same hn5)).mono ?_
                rintro e W' ⟨u', rfl, hs, hb'⟩
                have hx := hX.s3 HBq.out hn4 hn5 (hs.base (by have := hX.size; have := HBq.out; omega)) hb'
                rw [HFV.out] at hx
                exact hK.out _ _ (fun _ => hx) (fun h => absurd h (by decide))
              case o4 =>
                intro d vs W hdk hdep hcl hv hX K hK
                have hn5 : d 5 = false := by
                  cases hq : d 5 with
                  | false => rfl
                  | true => exact absurd (hcl 5 _ 4 rfl (by kernel_rfl) hq) (by rw [hdk]; decide)
                obtain ⟨u', e3, hs⟩ := hX.c3 (hdep 3 (by kernel_rfl)) hn5
                rw [HFV.out] at e3
                simp only [Nat.reduceAdd, e3] at hK ⊢
                have hx := hX.s4 HBq.out hn5 hs
                rw [HFu.out.1, HFu.out.2.1, HFu.out.2.2] at hx
                obtain ⟨ao, co, hso⟩ := hs.form
                have HX1 := Lib.hid hx
                clear hx
                subst hso
                go_simp
                exact hK.out _ _ (fun _ => HX1.out) (fun h => absurd h (by decide))
              case o5 =>
                intro d vs W hdk hdep hcl hv hX K hK
                have h1 : vs 1 = .slice ma ML.length mc := hv 1 (by kernel_rfl) (by decide)
                obtain ⟨b, v', w', e4, hr, hx⟩ := hX.s5 HFT.out HBq.out HL1.out (hdep 4 (by kernel_rfl)) hdk 29
                apply step_append_run16 (d := .tmp 41) (s := .tmp 44) (t1 := 29) (t2 := 29) (u := .slice ma ML.length mc) (x := .slice (some ⟨b, 0, none⟩) 1 1) (v := v') (w' := w')
                case hgd => rfl
                case ho => rfl
                case hd => simp [Act.eval, h1]
                case hs => simp [Act.eval, e4]
                case hrun => exact hr
                case h => exact hK.out _ _ (fun _ => hx) (fun h => absurd h (by decide))
              case o6 =>
                intro d vs W hdk hdep hcl hv hX K hK
                go_simp
                exact hK.out _ _ (fun h => absurd h (by decide)) (fun _ => ⟨rfl, Below.refl _ _⟩)
            case hfin =>
              intro d vs W2 hall hX hv
              have h6 : vs 6 = .pointer (some ⟨bM, 4, none⟩) := hv 6 (by decide) (by decide)
              have hF5 := hX.c5 (hall 5 (by decide))
              obtain ⟨na, nc, h5⟩ := hF5.form
              rw [show (ML ++ [f]).length = ML.length + 1 by simp] at h5
              rw [h5] at hF5
              have hbx := HBoxq.out W2 hX.size (fun i hi hl => hX.but i hi hl)
              obtain ⟨⟨m0, m1, m2, m3, m4⟩, g0, g1, g2, g3, g4⟩ := rcells hbx
              obtain ⟨W4, hW4⟩ : ∃ X, W2.setCell ⟨bM, 4, none⟩ (.slice na (ML.length + 1) nc) = X := ⟨_, rfl⟩
              have hs4 : W4.heap.size = W2.heap.size := by rw [← hW4]; simp [World.setCell]
              have ho4 : ∀ i, i ≠ bM → W4.heap[i]? = W2.heap[i]? := fun i hi => by rw [← hW4]; exact heap_setn _ _ _ _ hi
              have hb4 : W4.heap[bM]? = some (.cells #[.int .i64 aid, .int .i64 aver, .int .i64 akind, .string la, .slice na (ML.length + 1) nc] 31 (0, 0)) := by
                rw [← hW4]
                simp [World.setCell, Array.getElem?_modify, hbx]
              have HF4 := Lib.hid (hF5.kept (KpF.but (Nat.le_of_eq hs4.symm) (fun i hi _ => ho4 i hi) hbx (by decide) (by decide)))
              have HT4 : RowKit.Hid (TR B3 u11 (NtoI Tk) W4) := HTRq.out.keptT (fun i cs hB hi => by
                have hne : some i ≠ (Value.slice ma ML.length mc).ownBlock := HFT.out.ne hi (by decide)
                have hl := (Array.getElem?_eq_some_iff.1 hi).1
                refine (ho4 i (fun e => ?_)).trans (hX.but i hne hl)
                subst e
                have := (hX.but i hne hl).trans hi
                rw [hbx] at this
                injection Option.some.inj this with e1 e2
                exact absurd e2 (by decide))
              have hbel : Below (w.heap.size + 4) wq W4 := by rw [← hW4]; exact (hX.low.mono HBs.out.1).setCell (p := ⟨bM, 4, none⟩) HBs.out.2.1 _
              have HM4 := Lib.hid (HMq.out.moved hbel)
              have HB4 := Lib.hid hb4
              have HS4 : RowKit.Hid (B3 ≤ W4.heap.size) := by unfold RowKit.Hid; rw [hs4]; exact Nat.le_trans HSq.out hX.size
              simp only [Nat.reduceAdd, h5, h6]
              clear hF5 hbx hs4 ho4 hb4 hbel h5 h6 hall hX hv HFT HBoxq HFxq HTRq HMq HSq HBq cCq
              go_simp
              (try rw [hW4])
              clear hW4 m0 m1 m2 m3 m4 g0 g1 g2 g3 g4
              go_wp2_with (at_builtin; refine append_tr W4 rfl _ _ rfl B3 u11 (NtoI Tk) (k : Int) rfl HT4.out rfl (by unfold NtoI; rw [List.length_map]; have := HLz.out; omega) HS4.out ?_; intro v5 w5 htr5 hg5)
              have HT5 : RowKit.Hid (TR B3 v5 (NtoI (mergeF a.fields (b.fields.take (k + 1)) l).2) w5) := by
                rw [hst2]
                unfold NtoI at htr5 ⊢
                rw [List.map_append]
                exact htr5
              have HF5 : RowKit.Hid (FT B (.slice na (ML.length + 1) nc) (mergeF a.fields (b.fields.take (k + 1)) l).1 w5) := by
                rw [hst2]
                exact HF4.out.kept (KpF.grownI HT4.out hg5)
              have HB5 := Lib.hid (HT4.out.other hg5 HB4.out (by decide))
              have HM5 := Lib.hid (HM4.out.moved (((Below.refl (w.heap.size + 4) W4).alloc HM4.out.size (.cells #[.int .i64 (k : Int)] 3)).grown hg5 (Nat.le_trans HM4.out.size (by simp)) (fun j hj => by have := (HT4.out.blk j hj).1; have := HBs.out.2.2.2; omega)))
              have HS5 := Lib.hid (Nat.le_trans HS4.out (Nat.le_trans (by simp) hg5.size))
              clear htr5 hg5 hst2 HT4 HF4 HB4 HM4 HS4
              go_wp2
              go_roundw
              case rel => exact ⟨k + 1, by go_num, by omega, ⟨_, HF5.out, HB5.out⟩, HT5.out, HM5.out, HS5.out⟩
              case measure => simp [intOf]; omega
      · obtain rfl : k = n := by omega
        have hT : b.fields.take k = b.fields := by rw [← HN.out, List.take_length]
        rw [hT] at hft HTR
        clear hT hkn hvg HVX HStep
        obtain ⟨ML, hML⟩ : ∃ x, (mergeF a.fields b.fields l).1 = x := ⟨_, rfl⟩
        obtain ⟨TN, hTN⟩ : ∃ x, NtoI (mergeF a.fields b.fields l).2 = x := ⟨_, rfl⟩
        rw [hML] at hft HPre HOk
        rw [hTN] at HTR HOk
        obtain ⟨ma, mc, rfl⟩ := hft.form
        obtain ⟨ta, tc, rfl⟩ := HTR.out.form
        clear hML hTN
        obtain ⟨⟨m0, m1, m2, m3, m4⟩, -⟩ := rcells hbox
        by_cases h64 : 64 < ML.length
        · have he := HPre.out
          rw [if_neg (fun g => g rfl), if_pos h64] at he
          have d64 : decide ((64 : Int) < (ML.length : Int)) = true := decide_eq_true (by omega)
          have hfn := HM.out.finW #[.int .i64 0, .int .i64 0, .int .i64 0, .string ⟨#[]⟩, .slice none 0 0] #[.int .i64 0, .int .i64 0, .int .i64 0, .int .i64 0, .string ⟨#[]⟩, .slice none 0 0, .slice none 0 0]
          have HG := Lib.hid (HErr.out _ _ ⟨he, by decide⟩ hfn.2.2.1)
          have FA1 := Lib.hid hfn.1
          have FA2 := Lib.hid hfn.2.1
          have HRz := Lib.hid HM.out.r
          have HPz := Lib.hid hfn.2.2.2.2.2
          clear hfn
          clear HPre HOk HErr hft HTR HM HS3 hbox he h64
          go_wp2_with (first | (refine wpList_store_row rfl 31 _ _ rfl (w.heap.size + 2) #[.int .i64 0, .int .i64 0, .int .i64 0, .string ⟨#[]⟩, .slice none 0 0] rfl rfl 31 _ HRz.out (by kernel_rfl) rfl (by simp [Value.oneCell']) ?_) | (refine wpList_store_row rfl 36 _ _ rfl (w.heap.size + 3) #[.int .i64 0, .int .i64 0, .int .i64 0, .int .i64 0, .string ⟨#[]⟩, .slice none 0 0, .slice none 0 0] rfl rfl 36 _ HPz.out (by kernel_rfl) rfl (by simp [Value.oneCell']) ?_))
          (try simp only [Exit.inBlock, Exit.then])
          refine bodyPost_ret (results_three16 rfl _ _ (w.heap.size + 2) (w.heap.size + 3) _ _ _ _ _ _ _ _ rfl rfl FA1.out FA2.out Tryd.underlying31 rfl (by kernel_rfl) Tryd.underlying36 rfl (by kernel_rfl)) rfl ?_
          exact HG.out
        · have he := HPre.out
          rw [if_neg (fun g => g rfl), if_neg h64] at he
          have d64 : decide ((64 : Int) < (ML.length : Int)) = false := decide_eq_false (by omega)
          have HOk2 := Lib.hid (HOk.out he)
          have hWs := HM.out.size
          have HSz : RowKit.Hid (w.heap.size ≤ wr.heap.size) := by unfold RowKit.Hid; omega
          have HRr : RowKit.Hid (w.heap.size + 2 < wr.heap.size) := by unfold RowKit.Hid; omega
          have HRp : RowKit.Hid (w.heap.size + 3 < wr.heap.size) := by unfold RowKit.Hid; omega
          obtain ⟨Xr, hXr⟩ : ∃ X, Obj.cells #[.int .i64 aid, .int .i64 aver, .int .i64 akind, .string la, .slice ma ML.length mc] 31 (0, 0) = X := ⟨_, rfl⟩
          obtain ⟨Yp, hYp⟩ : ∃ Y : Value → Obj, (fun fv => Obj.cells #[.int .i64 aid, .int .i64 bid, .int .i64 bver, .int .i64 bkind, .string lb, fv, .slice ta TN.length tc] 36 (0, 0)) = Y := ⟨_, rfl⟩
          have HXr := Lib.hid hXr.symm
          have HYp := Lib.hid (fun fv => (congrFun hYp fv).symm)
          have HR0 := Lib.hid HM.out.r
          have HP0 := Lib.hid HM.out.p
          have hx0 := HMx.out _ HM.out
          have hy0 := HMy.out _ HM.out
          have hltM := (Array.getElem?_eq_some_iff.1 hbox).1
          have hBM4 := HBs.out.2.1
          have HBoxe := Lib.hid (fun (W : World) (h : Ra w.heap.size (w.heap.size + 2) (w.heap.size + 3) wr.heap.size Xr Yp b.fields wr W) => (h.but bM (by omega) (by omega) hltM).trans hbox)
          have HXe := Lib.hid (fun (W : World) (h : Ra w.heap.size (w.heap.size + 2) (w.heap.size + 3) wr.heap.size Xr Yp b.fields wr W) => (h.but w.heap.size (by omega) (by omega) (by omega)).trans hx0)
          have HYe := Lib.hid (fun (W : World) (h : Ra w.heap.size (w.heap.size + 2) (w.heap.size + 3) wr.heap.size Xr Yp b.fields wr W) => (h.but (w.heap.size + 1) (by omega) (by omega) (by omega)).trans hy0)
          have HSe := Lib.hid HM.out.bel.size
          have cC := Lib.hid (fun (W : World) (h : Ra w.heap.size (w.heap.size + 2) (w.heap.size + 3) wr.heap.size Xr Yp b.fields wr W) => (cB.out W (HM.out.bel.trans h.low)).mono (R' := fun e W' => ∃ fv, e = .returned (.agg #[.int .i64 bid, .int .i64 bver, .int .i64 bkind, .string lb, fv]) ∧ FT wr.heap.size fv b.fields W' ∧ Below W.heap.size W W' ∧ True) (fun e W' ⟨fv, h1, h2, h3, _⟩ => ⟨fv, h1, h2.base (by have := h.low.size; omega), h3, trivial⟩))
          have HEnd : RowKit.Hid (∀ W, Ra w.heap.size (w.heap.size + 2) (w.heap.size + 3) wr.heap.size Xr Yp b.fields wr W → PrX (w.heap.size + 2) Xr W → PpX (w.heap.size + 3) wr.heap.size Yp b.fields W → ∃ fv, W.heap[w.heap.size + 2]? = some (.cells #[.int .i64 aid, .int .i64 aver, .int .i64 akind, .string la, .slice ma ML.length mc] 31 (0, 0)) ∧ W.heap[w.heap.size + 3]? = some (.cells #[.int .i64 aid, .int .i64 bid, .int .i64 bver, .int .i64 bkind, .string lb, fv, .slice ta TN.length tc] 36 (0, 0)) ∧
              Q (.returned (.tuple #[.agg #[.int .i64 aid, .int .i64 aver, .int .i64 akind, .string la, .slice ma ML.length mc], .agg #[.int .i64 aid, .int .i64 bid, .int .i64 bver, .int .i64 bkind, .string lb, fv, .slice ta TN.length tc], .int .i64 0])) W) := by
            intro W hR h1 h2
            obtain ⟨fv, h3, h4⟩ := h2
            refine ⟨fv, by rw [h1, HXr.out], by rw [h3, HYp.out], HOk2.out _ _ _ W ?_ (HM.out.bel.trans hR.low)⟩
            have hft2 : FT B (.slice ma ML.length mc) ML W := hft.kept (KpF.of hR.low.size fun i hi hl => hR.but i (by have := HBs.out; omega) (by have := HBs.out; omega) hl)
            have htr2 : TR B3 (.slice ta TN.length tc) TN W := HTR.out.keptT (fun i cs hi hc => hR.but i (by have := HBs.out; omega) (by have := HBs.out; omega) (Array.getElem?_eq_some_iff.1 hc).1)
            exact ⟨hft2.base (by have := HBs.out; omega), h4.base (by omega), htr2.base (by have := HBs.out; omega)⟩
          clear hXr hYp HPre HOk HErr hft HTR HM HS3 hbox he h64 hx0 hy0 hltM hBM4 cB HOk2 hWs
          go_upto_region 15 with fail
          clear m0 m1 m2 m3 m4
          apply wp_region_rel (R := Ra w.heap.size (w.heap.size + 2) (w.heap.size + 3) wr.heap.size Xr Yp b.fields) (V := [SPR.eq _ (.agg #[.int .i64 aid, .int .i64 aver, .int .i64 akind, .string la, .slice ma ML.length mc]), SPR.eq _ (.pointer (some ⟨w.heap.size, 0, none⟩)), SPR.eq _ (.int .i64 aid), SPR.eq _ (.agg #[.int .i64 bid, .int .i64 bver, .int .i64 bkind, .string lb, .slice va k vc]), SPR.ft16 _ _ _ _ _ _ _ HRr.out HRp.out (fun fv => .agg #[.int .i64 bid, .int .i64 bver, .int .i64 bkind, .string lb, fv]), SPR.eq _ (.slice ta TN.length tc), SPR.ft16 _ _ _ _ _ _ _ HRr.out HRp.out (fun fv => .agg #[.int .i64 aid, .int .i64 bid, .int .i64 bver, .int .i64 bkind, .string lb, fv, .slice ta TN.length tc]), SPR.pr16 _ _ _ _ _ _ _, SPR.pp16 _ _ _ _ _ _ _, SPR.eq _ (.int .i64 0)])
          case htrans => exact fun _ _ _ h k => h.trans k
          case hdrew => exact Ra.below HSz.out (Below.refl _ _).drew
          case hm => kernel_rfl
          case hd => kernel_rfl
          case hb => kernel_rfl
          case hA =>
            intro vs
            simp only [puts, Act.put, List.setIfInBounds_toArray, List.set_cons_zero, List.set_cons_succ]
            exact rfl
          case hob =>
            refine ObsR.cons _ _ _ _ _ _ _ ?o0 (ObsR.cons _ _ _ _ _ _ _ ?o1 (ObsR.cons _ _ _ _ _ _ _ ?o2 (ObsR.cons _ _ _ _ _ _ _ ?o3 (ObsR.cons _ _ _ _ _ _ _ ?o4 (ObsR.cons _ _ _ _ _ _ _ ?o5 (ObsR.cons _ _ _ _ _ _ _ ?o6 (ObsR.cons _ _ _ _ _ _ _ ?o7 (ObsR.cons _ _ _ _ _ _ _ ?o8 (ObsR.cons _ _ _ _ _ _ _ ?o9 (ObsR.nil _ _ _ _ _ _ _))))))))))
            case o0 =>
              intro vs W hw hd K hK
              obtain ⟨⟨m0, m1, m2, m3, m4⟩, -⟩ := rcells (HBoxe.out W hw)
              go_simp
              exact hK.out _ _ rfl Ra.refl
            case o1 =>
              intro vs W hw hd K hK
              go_simp
              exact hK.out _ _ rfl Ra.refl
            case o2 =>
              intro vs W hw hd K hK
              have h1 : vs 1 = .pointer (some ⟨w.heap.size, 0, none⟩) := hd 1 (by kernel_rfl)
              obtain ⟨⟨x0, x1, x2, x3, x4⟩, -⟩ := rcells (HXe.out W hw)
              simp only [Nat.reduceAdd, h1] at hK ⊢
              go_simp
              exact hK.out _ _ rfl Ra.refl
            case o3 =>
              intro vs W hw hd K hK
              obtain ⟨⟨y0, y1, y2, y3, y4⟩, -⟩ := rcells (HYe.out W hw)
              go_simp
              exact hK.out _ _ rfl Ra.refl
            case o4 =>
              intro vs W hw hd K hK
              have h3 : vs 3 = .agg #[.int .i64 bid, .int .i64 bver, .int .i64 bkind, .string lb, .slice va k vc] := hd 3 (by kernel_rfl)
              simp only [Nat.reduceAdd, h3] at hK ⊢
              go_simp
              refine (cC.out W hw).mono ?_
              rintro e W' ⟨fv, rfl, hf, hb', -⟩
              exact hK.out _ _ ⟨fv, rfl, hf⟩ (Ra.below (by have := hw.low.size; have := HSe.out; omega) hb')
            case o5 =>
              intro vs W hw hd K hK
              go_simp
              exact hK.out _ _ rfl Ra.refl
            case o6 =>
              intro vs W hw hd K hK
              have h2 : vs 2 = .int .i64 aid := hd 2 (by kernel_rfl)
              have h5 : vs 5 = .slice ta TN.length tc := hd 5 (by kernel_rfl)
              obtain ⟨fv, e4, hf⟩ : ∃ fv, vs 4 = .agg #[.int .i64 bid, .int .i64 bver, .int .i64 bkind, .string lb, fv] ∧ FT wr.heap.size fv b.fields W := hd 4 (by kernel_rfl)
              obtain ⟨ao, co, hso⟩ := hf.form
              subst hso
              simp only [Nat.reduceAdd, h2, h5, e4] at hK ⊢
              go_simp
              exact hK.out _ _ ⟨_, rfl, hf⟩ Ra.refl
            case o7 =>
              intro vs W hw hd K hK
              have h0 : vs 0 = .agg #[.int .i64 aid, .int .i64 aver, .int .i64 akind, .string la, .slice ma ML.length mc] := hd 0 (by kernel_rfl)
              obtain ⟨cs, hcs, hz⟩ := hw.shr _ _ HR0.out
              have hS := Ra.rowR (n0 := w.heap.size) (p := w.heap.size + 3) (N := wr.heap.size) (Y := Yp) (L := b.fields) hcs HXr.out hz.symm (by omega) (by omega) HRr.out
              apply step_store_row16 (ty := 31) (x := .tmp 6) (y := .tmp 58) (g := w.heap.size + 2) (cells := #[.int .i64 aid, .int .i64 aver, .int .i64 akind, .string la, .slice ma ML.length mc]) (t := 31) (old := cs)
              case hgd => rfl
              case ho => rfl
              case hx => simp [Act.eval]
              case hy => simp [Act.eval, h0]
              case hg => exact hcs
              case hi => kernel_rfl
              case hold => exact hz
              case h1 => simp [Value.oneCell']
              case h => exact hK.out undef _ hS.2 hS.1
            case o8 =>
              intro vs W hw hd K hK
              obtain ⟨fv, e6, hf⟩ : ∃ fv, vs 6 = .agg #[.int .i64 aid, .int .i64 bid, .int .i64 bver, .int .i64 bkind, .string lb, fv, .slice ta TN.length tc] ∧ FT wr.heap.size fv b.fields W := hd 6 (by kernel_rfl)
              obtain ⟨cs, hcs, hz⟩ := hw.shp _ _ HP0.out
              have hS := Ra.rowP (n0 := w.heap.size) (r := w.heap.size + 2) (X := Xr) hcs (HYp.out fv) hz.symm hf (by omega) (by omega) HRp.out
              obtain ⟨ao, co, hso⟩ := hf.form
              subst hso
              apply step_store_row16 (ty := 36) (x := .tmp 7) (y := .tmp 64) (g := w.heap.size + 3) (cells := #[.int .i64 aid, .int .i64 bid, .int .i64 bver, .int .i64 bkind, .string lb, .slice ao b.fields.length co, .slice ta TN.length tc]) (t := 36) (old := cs)
              case hgd => rfl
              case ho => rfl
              case hx => simp [Act.eval]
              case hy => simp [Act.eval, e6]
              case hg => exact hcs
              case hi => kernel_rfl
              case hold => exact hz
              case h1 => simp [Value.oneCell']
              case h => exact hK.out undef _ hS.2 hS.1
            case o9 =>
              intro vs W hw hd K hK
              go_simp
              exact hK.out _ _ rfl Ra.refl
          case hfin =>
            intro vs W hw hd
            have h7 := hd 7 (by decide)
            have h8 := hd 8 (by decide)
            have h9 : vs 9 = .int .i64 0 := hd 9 (by decide)
            obtain ⟨fv, FA1, FA2, HG⟩ := HEnd.out W hw h7 h8
            have FA1 := Lib.hid FA1
            have FA2 := Lib.hid FA2
            have HG := Lib.hid HG
            simp only [Nat.reduceAdd, h9]
            clear hd h7 h8 h9 hw HEnd cC HBoxe HXe HYe HR0 HP0
            go_wp2
            (try simp only [Exit.inBlock, Exit.then])
            refine bodyPost_ret (results_three16 rfl _ _ (w.heap.size + 2) (w.heap.size + 3) _ _ _ _ _ _ _ _ rfl rfl FA1.out FA2.out Tryd.underlying31 rfl (by kernel_rfl) Tryd.underlying36 rfl (by kernel_rfl)) rfl ?_
            exact HG.out
  · have he := HPre.out
    rw [if_pos h0] at he
    have d0 : decide (e0 = 0) = false := decide_eq_false h0
    have q0 : (e0 == 0) = false := beq_false_of_ne h0
    have hfn := m1.finW #[.int .i64 0, .int .i64 0, .int .i64 0, .string ⟨#[]⟩, .slice none 0 0] #[.int .i64 0, .int .i64 0, .int .i64 0, .int .i64 0, .string ⟨#[]⟩, .slice none 0 0, .slice none 0 0]
    have HG := Lib.hid (HErr.out _ _ ⟨he, h0⟩ hfn.2.2.1)
    have FA1 := Lib.hid hfn.1
    have FA2 := Lib.hid hfn.2.1
    have HRz := Lib.hid m1.r
    have HPz := Lib.hid hfn.2.2.2.2.2
    clear hfn
    clear HPre HOk HErr m1 cA cB
    go_wp2_with (first | (refine wpList_store_row rfl 31 _ _ rfl (w.heap.size + 2) #[.int .i64 0, .int .i64 0, .int .i64 0, .string ⟨#[]⟩, .slice none 0 0] rfl rfl 31 _ HRz.out (by kernel_rfl) rfl (by simp [Value.oneCell']) ?_) | (refine wpList_store_row rfl 36 _ _ rfl (w.heap.size + 3) #[.int .i64 0, .int .i64 0, .int .i64 0, .int .i64 0, .string ⟨#[]⟩, .slice none 0 0, .slice none 0 0] rfl rfl 36 _ HPz.out (by kernel_rfl) rfl (by simp [Value.oneCell']) ?_))
    (try simp only [Exit.inBlock, Exit.then])
    refine bodyPost_ret (results_three16 rfl _ _ (w.heap.size + 2) (w.heap.size + 3) _ _ _ _ _ _ _ _ rfl rfl FA1.out FA2.out Tryd.underlying31 rfl (by kernel_rfl) Tryd.underlying36 rfl (by kernel_rfl)) rfl ?_
    exact HG.out
end

end Go.Proofs.YtceneblmllpdnaaDoor
