/- Merged: LQ16, LU16. -/
import Derived.Test.YtceneblmllpdnaaDoorQ34
import Derived.Test.YtceneblmllpdnaaDoorQ24
import Derived.Test.YtceneblmllpdnaaDoorQ30
import Derived.Test.YtceneblmllpdnaaDoorQ31
namespace Go.Proofs.YtceneblmllpdnaaDoor

section
open Go.RowKit Go.PlainAid
theorem mrg_ok16 (a b : Rec) (l : List Kp) (u x k : Value) (w : World) (hE : Env w) (hu : FL u a.fields w) (hx : FL x b.fields w) (hk : KpL k l w) (ha : BndR a) (hb : BndR b) (he : errM a b l = 0) :
    Calls Tryd.prog 13 #[RV a u, RV b x, k] w fun e w' => ∃ mv fv tv, e = .returned (.tuple #[.agg #[.int .i64 a.id, .int .i64 a.ver, .int .i64 a.kind, .string (S a.lang), mv], .agg #[.int .i64 a.id, .int .i64 b.id, .int .i64 b.ver, .int .i64 b.kind, .string (S b.lang), fv, tv], .int .i64 0]) ∧
      FT w.heap.size mv (mergeF a.fields b.fields l).1 w' ∧ FT w.heap.size fv b.fields w' ∧ TR w.heap.size tv (NtoI (mergeF a.fields b.fields l).2) w' ∧ Below w.heap.size w w' := by
  refine (pMerge_any a b l u x k w hE hu hx hk ha hb).mono ?_
  rintro e W' ⟨mv, fv, tv, h1, h2, h3, h4, h5⟩
  have e1 : mrgR a b l = { a with fields := (mergeF a.fields b.fields l).1 } := by unfold mrgR; rw [if_pos he]
  have e2 : mrgP a b l = ⟨a.id, b, NtoI (mergeF a.fields b.fields l).2⟩ := by unfold mrgP; rw [if_pos he]; rfl
  rw [e1, e2, he] at h1
  rw [e1] at h2
  rw [e2] at h3 h4
  exact ⟨mv, fv, tv, h1, h2, h3, h4, h5⟩
theorem mrg_err16 (a b : Rec) (l : List Kp) (u x k : Value) (w : World) (hE : Env w) (hu : FL u a.fields w) (hx : FL x b.fields w) (hk : KpL k l w) (ha : BndR a) (hb : BndR b) (he : errM a b l ≠ 0) :
    Calls Tryd.prog 13 #[RV a u, RV b x, k] w fun e w' => ∃ ma mc fa fc ta tc, e = .returned (.tuple #[.agg #[.int .i64 0, .int .i64 0, .int .i64 0, .string ⟨#[]⟩, .slice ma 0 mc], .agg #[.int .i64 0, .int .i64 0, .int .i64 0, .int .i64 0, .string ⟨#[]⟩, .slice fa 0 fc, .slice ta 0 tc], .int .i64 (errM a b l)]) ∧ Below w.heap.size w w' := by
  refine (pMerge_any a b l u x k w hE hu hx hk ha hb).mono ?_
  rintro e W' ⟨mv, fv, tv, h1, h2, h3, h4, h5⟩
  have e1 : mrgR a b l = rec0 := by unfold mrgR; rw [if_neg he]
  have e2 : mrgP a b l = prt0 := by unfold mrgP; rw [if_neg he]
  rw [e1, e2] at h1
  rw [e1] at h2
  rw [e2] at h3 h4
  obtain ⟨ma, mc, rfl⟩ : ∃ a c, mv = .slice a 0 c := h2.form
  obtain ⟨fa, fc, rfl⟩ : ∃ a c, fv = .slice a 0 c := h3.form
  obtain ⟨ta, tc, rfl⟩ : ∃ a c, tv = .slice a 0 c := h4.form
  exact ⟨ma, mc, fa, fc, ta, tc, h1, h5⟩
theorem NtoI_at (T : List Nat) (k : Nat) : (NtoI T).getD k 0 = ((T.getD k 0 : Nat) : Int) := by
  unfold NtoI
  rw [List.getD_eq_getElem?_getD, List.getElem?_map, List.getD_eq_getElem?_getD]
  cases T[k]? <;> rfl
theorem NtoI_len (T : List Nat) : (NtoI T).length = T.length := by unfold NtoI; rw [List.length_map]
theorem partF_map (g : Nat → Fld) (h : Nat → Nat) : ∀ (L : List Nat) (s : List Fld × Bool), partF g (L.map h) s = partF (fun j => g (h j)) L s
  | [], _ => rfl
  | k :: t, s => by rw [List.map_cons, partF, partF, partF_map g h t]
theorem descN_rev (T : List Nat) : (descN T.length T.length).map (fun j => T.getD j 0) = T.reverse := by
  apply List.ext_getElem?
  intro i
  unfold descN
  rw [List.map_map, List.getElem?_map]
  by_cases hi : i < T.length
  · rw [List.getElem?_range hi, List.getElem?_reverse hi]
    have h2 : T.length - 1 - i < T.length := by omega
    simp [List.getD_eq_getElem?_getD, List.getElem?_eq_getElem h2]
  · rw [List.getElem?_eq_none (by simp; omega), List.getElem?_eq_none (by simp; omega)]
    rfl
/-- Split after Merge, with another field behind. -/
theorem back_merge (I F : List Fld) (l : List Kp) (f : Fld) (hf : ∀ k ∈ (mergeF I F l).2, F.getD k fd0 ≠ f) :
    backF F (NtoI (mergeF I F l).2) ((mergeF I F l).1 ++ [f]) = (I ++ [f], true) := by
  have h := merge_back I F l fd0 [f] (fun k hk hm => hf k hk (by simpa using hm))
  unfold backF
  rw [NtoI_len]
  generalize (mergeF I F l).2 = T at *
  have e : (fun j => F.getD ((NtoI T).getD j 0).toNat fd0) = fun j => (fun k => F.getD k fd0) (T.getD j 0) := by
    funext j
    rw [NtoI_at]
    rfl
  rw [e, ← partF_map (fun k => F.getD k fd0) (fun j => T.getD j 0), descN_rev]
  exact h
/-- The first fields of a slice. -/
theorem FL.front {A B : List Fld} {a : Option Addr} {n c : Nat} {w : World} (h : FL (.slice a n c) (A ++ B) w) : FL (.slice a A.length c) A w := by
  obtain ⟨a1, c1, he, h1, h2, h3, h4⟩ := h
  obtain ⟨rfl, -, rfl⟩ := Value.slice.inj he
  rw [List.length_append] at h1 h4
  refine ⟨a, c, rfl, by omega, h2, h3, fun i hi => ?_⟩
  have := h4 i (by omega)
  rw [getD_appF, if_pos hi] at this
  exact this
theorem getD_last16 (A : List Fld) (f : Fld) : (A ++ [f]).getD A.length fd0 = f := by
  rw [getD_appF, if_neg (by omega)]
  simp
end

section
open Go.RowKit Go.PlainAid
set_option maxHeartbeats 32000000 in
set_option maxRecDepth 100000 in
theorem linv_unfair (a b : Rec) (l : List Kp) (u x k : Value) (f : Fld) (uf : Value) (w : World) (hE : Env w) (hu : FL u a.fields w) (hx : FL x b.fields w) (hk : KpL k l w) (huf : QL uf f.subs w) (fb lb : Bool) (hfb : fairB a b l = fb) (hlb : littleB f = lb) (hn : fb = false ∨ lb = false) :
    Calls Tryd.prog 5 #[PairV a u b x k, FV f uf] w fun e w' => e = .returned (.bool true) ∧ Below w.heap.size w w' := by
  rw [fairV]
  have HE := Lib.hid (fun (W : World) (h : Below w.heap.size w W) => hE.after h)
  have HU := Lib.hid (fun (W : World) (h : Below w.heap.size w W) => hu.after h)
  have HV := Lib.hid (fun (W : World) (h : Below w.heap.size w W) => hx.after h)
  have HK := Lib.hid (fun (W : World) (h : Below w.heap.size w W) => hk.after h)
  have HQ := Lib.hid (fun (W : World) (h : Below w.heap.size w W) => huf.after h)
  have cF := Lib.hid (fun (W : World) (h : Below w.heap.size w W) => lfair_any a b l u x k W (hu.after h) (hx.after h) (hk.after h) fb hfb)
  have cL := Lib.hid (fun (W : World) (h : Below w.heap.size w W) => lLittle_any f uf W (huf.after h) lb hlb)
  obtain ⟨ua, uc, hua, -, -⟩ := hu.length
  obtain ⟨xa, xc, hxa, -, -⟩ := hx.length
  obtain ⟨ka, kc, -, -, hka, -, -, -, -⟩ := hk.opened
  obtain ⟨qa, qc, hqa, -, -⟩ := huf.length
  obtain ⟨W0, hW0⟩ : ∃ W0, (w.alloc (.cells #[.int .i64 a.id, .int .i64 a.ver, .int .i64 a.kind, .string (S a.lang), u, .int .i64 b.id, .int .i64 b.ver, .int .i64 b.kind, .string (S b.lang), x, k] 33)).alloc (.cells #[.string (S f.tag), .string (S f.ind), uf, .int .i64 f.auth] 45) = W0 := ⟨_, rfl⟩
  have b0 : Below w.heap.size w W0 := by rw [← hW0]; exact ((Below.refl w.heap.size w).alloc (Nat.le_refl _) _).alloc (by simp) _
  have hX : W0.heap[w.heap.size]? = some (.cells #[.int .i64 a.id, .int .i64 a.ver, .int .i64 a.kind, .string (S a.lang), u, .int .i64 b.id, .int .i64 b.ver, .int .i64 b.kind, .string (S b.lang), x, k] 33 (0, 0)) := by
    rw [← hW0]
    exact (Below.heap_alloc _ _ _ (by simp)).trans (heap_alloc_new w _)
  have hY : W0.heap[w.heap.size + 1]? = some (.cells #[.string (S f.tag), .string (S f.ind), uf, .int .i64 f.auth] 45 (0, 0)) := by
    rw [← hW0]
    have := heap_alloc_new (w.alloc (.cells #[.int .i64 a.id, .int .i64 a.ver, .int .i64 a.kind, .string (S a.lang), u, .int .i64 b.id, .int .i64 b.ver, .int .i64 b.kind, .string (S b.lang), x, k] 33)) (.cells #[.string (S f.tag), .string (S f.ind), uf, .int .i64 f.auth] 45)
    simpa using this
  have HX := Lib.hid (fun (W : World) (h : Below W0.heap.size W0 W) => (h.block w.heap.size (Array.getElem?_eq_some_iff.1 hX).1).trans hX)
  have HY := Lib.hid (fun (W : World) (h : Below W0.heap.size W0 W) => (h.block (w.heap.size + 1) (Array.getElem?_eq_some_iff.1 hY).1).trans hY)
  have HW0 := Lib.hid hW0
  have HB0 := Lib.hid b0
  rw [fairV] at cF
  unfold RV FV at *
  subst hua hxa hka hqa
  obtain ⟨⟨x0, x1, x2, x3, x4⟩, ⟨x5, x6, x7, x8, x9⟩, x10⟩ := pair_cells hX
  clear hE hu hx hk huf hfb hlb hW0 b0 hX hY HU HV HK
  generalize S a.lang = la at *
  generalize a.id = a0 at *
  generalize a.ver = a1 at *
  generalize a.kind = a2 at *
  generalize S b.lang = lb' at *
  generalize b.id = b0 at *
  generalize b.ver = b1 at *
  generalize b.kind = b2 at *
  generalize han : a.fields.length = an at *
  generalize hbn : b.fields.length = bn at *
  generalize l.length = kn at *
  generalize hqn : f.subs.length = qn at *
  have HAN := Lib.hid han
  have HBN := Lib.hid hbn
  have HQN := Lib.hid hqn
  clear han hbn hqn
  obtain ⟨ft, hft⟩ : ∃ y, S f.tag = y := ⟨_, rfl⟩
  obtain ⟨fi, hfi⟩ : ∃ y, S f.ind = y := ⟨_, rfl⟩
  obtain ⟨fau, hfa⟩ : ∃ y, f.auth = y := ⟨_, rfl⟩
  rw [hft, hfi, hfa] at cL HY HW0
  rw [hft, hfi, hfa]
  have HFt := Lib.hid (show S f.tag = ft ∧ S f.ind = fi ∧ f.auth = fau from ⟨hft, hfi, hfa⟩)
  clear hft hfi hfa
  go_enter Tryd.func5, Tryd.ntmps5
  go_upto_region 1 with fail
  (try rw [HW0.out])
  clear HW0
  go_wp2_with fail
  refine (cF.out W0 HB0.out).mono ?_
  rintro e w1 ⟨rfl, hb1⟩
  have HW1 := Lib.hid hb1
  have HB1 := Lib.hid (HB0.out.trans (hb1.mono HB0.out.size))
  clear hb1 x0 x1 x2 x3 x4 x5 x6 x7 x8 x9 x10 cF
  obtain ⟨⟨y0, y1, y2, y3⟩, -⟩ := fcells4 (HY.out w1 HW1.out)
  cases fb with
  | false =>
    go_wp2_with fail
    refine (lalive16_any w1 (HE.out w1 HB1.out)).mono ?_
    rintro e w2 ⟨rfl, hb⟩
    have HBz := Lib.hid (HB1.out.trans (hb.mono HB1.out.size))
    clear hb
    go_wp2
    first | exact ⟨rfl, HBz.out⟩ | (go_ret; exact ⟨rfl, HBz.out⟩)
  | true =>
  obtain rfl : lb = false := hn.resolve_left (by decide)
  go_wp2_with fail
  refine (cL.out w1 HB1.out).mono ?_
  rintro e w2 ⟨rfl, hb2⟩
  have HW2 := Lib.hid (HW1.out.trans (hb2.mono HW1.out.size))
  have HB2 := Lib.hid (HB1.out.trans (hb2.mono HB1.out.size))
  clear hb2 y0 y1 y2 y3 cL
  go_wp2_with fail
  refine (lalive16_any w2 (HE.out w2 HB2.out)).mono ?_
  rintro e w3 ⟨rfl, hb⟩
  have HBz := Lib.hid (HB2.out.trans (hb.mono HB2.out.size))
  clear hb
  go_wp2
  first | exact ⟨rfl, HBz.out⟩ | (go_ret; exact ⟨rfl, HBz.out⟩)

set_option maxHeartbeats 32000000 in
set_option maxRecDepth 100000 in
theorem linv_err (a b : Rec) (l : List Kp) (u x k : Value) (f : Fld) (uf : Value) (w : World) (hE : Env w) (hu : FL u a.fields w) (hx : FL x b.fields w) (hk : KpL k l w) (huf : QL uf f.subs w) (fb lb : Bool) (hfb : fairB a b l = fb) (hlb : littleB f = lb) (h1f : fb = true) (h1l : lb = true) (he : errM a b l ≠ 0) :
    Calls Tryd.prog 5 #[PairV a u b x k, FV f uf] w fun e w' => e = .returned (.bool true) ∧ Below w.heap.size w w' := by
  rw [fairV]
  have HE := Lib.hid (fun (W : World) (h : Below w.heap.size w W) => hE.after h)
  have HU := Lib.hid (fun (W : World) (h : Below w.heap.size w W) => hu.after h)
  have HV := Lib.hid (fun (W : World) (h : Below w.heap.size w W) => hx.after h)
  have HK := Lib.hid (fun (W : World) (h : Below w.heap.size w W) => hk.after h)
  have HQ := Lib.hid (fun (W : World) (h : Below w.heap.size w W) => huf.after h)
  have cF := Lib.hid (fun (W : World) (h : Below w.heap.size w W) => lfair_any a b l u x k W (hu.after h) (hx.after h) (hk.after h) fb hfb)
  have cL := Lib.hid (fun (W : World) (h : Below w.heap.size w W) => lLittle_any f uf W (huf.after h) lb hlb)
  have hfair := fairB_ok (hfb.trans h1f)
  have cM := Lib.hid (fun (W : World) (h : Below w.heap.size w W) => mrg_err16 a b l u x k W (HE.out W h) (HU.out W h) (HV.out W h) (HK.out W h) hfair.1.1 hfair.2.1 he)
  obtain ⟨ee, hee⟩ : ∃ y, errM a b l = y := ⟨_, rfl⟩
  rw [hee] at cM he
  obtain ⟨ua, uc, hua, -, -⟩ := hu.length
  obtain ⟨xa, xc, hxa, -, -⟩ := hx.length
  obtain ⟨ka, kc, -, -, hka, -, -, -, -⟩ := hk.opened
  obtain ⟨qa, qc, hqa, -, -⟩ := huf.length
  obtain ⟨W0, hW0⟩ : ∃ W0, (w.alloc (.cells #[.int .i64 a.id, .int .i64 a.ver, .int .i64 a.kind, .string (S a.lang), u, .int .i64 b.id, .int .i64 b.ver, .int .i64 b.kind, .string (S b.lang), x, k] 33)).alloc (.cells #[.string (S f.tag), .string (S f.ind), uf, .int .i64 f.auth] 45) = W0 := ⟨_, rfl⟩
  have b0 : Below w.heap.size w W0 := by rw [← hW0]; exact ((Below.refl w.heap.size w).alloc (Nat.le_refl _) _).alloc (by simp) _
  have hX : W0.heap[w.heap.size]? = some (.cells #[.int .i64 a.id, .int .i64 a.ver, .int .i64 a.kind, .string (S a.lang), u, .int .i64 b.id, .int .i64 b.ver, .int .i64 b.kind, .string (S b.lang), x, k] 33 (0, 0)) := by
    rw [← hW0]
    exact (Below.heap_alloc _ _ _ (by simp)).trans (heap_alloc_new w _)
  have hY : W0.heap[w.heap.size + 1]? = some (.cells #[.string (S f.tag), .string (S f.ind), uf, .int .i64 f.auth] 45 (0, 0)) := by
    rw [← hW0]
    have := heap_alloc_new (w.alloc (.cells #[.int .i64 a.id, .int .i64 a.ver, .int .i64 a.kind, .string (S a.lang), u, .int .i64 b.id, .int .i64 b.ver, .int .i64 b.kind, .string (S b.lang), x, k] 33)) (.cells #[.string (S f.tag), .string (S f.ind), uf, .int .i64 f.auth] 45)
    simpa using this
  have HX := Lib.hid (fun (W : World) (h : Below W0.heap.size W0 W) => (h.block w.heap.size (Array.getElem?_eq_some_iff.1 hX).1).trans hX)
  have HY := Lib.hid (fun (W : World) (h : Below W0.heap.size W0 W) => (h.block (w.heap.size + 1) (Array.getElem?_eq_some_iff.1 hY).1).trans hY)
  have HW0 := Lib.hid hW0
  have HB0 := Lib.hid b0
  rw [fairV] at cF
  unfold RV FV at *
  subst hua hxa hka hqa
  obtain ⟨⟨x0, x1, x2, x3, x4⟩, ⟨x5, x6, x7, x8, x9⟩, x10⟩ := pair_cells hX
  clear hE hu hx hk huf hfb hlb hW0 b0 hX hY HU HV HK hfair hee
  generalize S a.lang = la at *
  generalize a.id = a0 at *
  generalize a.ver = a1 at *
  generalize a.kind = a2 at *
  generalize S b.lang = lb' at *
  generalize b.id = b0 at *
  generalize b.ver = b1 at *
  generalize b.kind = b2 at *
  generalize han : a.fields.length = an at *
  generalize hbn : b.fields.length = bn at *
  generalize l.length = kn at *
  generalize hqn : f.subs.length = qn at *
  have HAN := Lib.hid han
  have HBN := Lib.hid hbn
  have HQN := Lib.hid hqn
  clear han hbn hqn
  obtain ⟨ft, hft⟩ : ∃ y, S f.tag = y := ⟨_, rfl⟩
  obtain ⟨fi, hfi⟩ : ∃ y, S f.ind = y := ⟨_, rfl⟩
  obtain ⟨fau, hfa⟩ : ∃ y, f.auth = y := ⟨_, rfl⟩
  rw [hft, hfi, hfa] at cL HY HW0
  rw [hft, hfi, hfa]
  have HFt := Lib.hid (show S f.tag = ft ∧ S f.ind = fi ∧ f.auth = fau from ⟨hft, hfi, hfa⟩)
  clear hft hfi hfa
  go_enter Tryd.func5, Tryd.ntmps5
  go_upto_region 1 with fail
  (try rw [HW0.out])
  clear HW0
  go_wp2_with fail
  refine (cF.out W0 HB0.out).mono ?_
  rintro e w1 ⟨rfl, hb1⟩
  have HW1 := Lib.hid hb1
  have HB1 := Lib.hid (HB0.out.trans (hb1.mono HB0.out.size))
  clear hb1 x0 x1 x2 x3 x4 x5 x6 x7 x8 x9 x10 cF
  obtain ⟨⟨y0, y1, y2, y3⟩, -⟩ := fcells4 (HY.out w1 HW1.out)
  subst h1f h1l
  go_wp2_with fail
  refine (cL.out w1 HB1.out).mono ?_
  rintro e w2 ⟨rfl, hb2⟩
  have HW2 := Lib.hid (HW1.out.trans (hb2.mono HW1.out.size))
  have HB2 := Lib.hid (HB1.out.trans (hb2.mono HB1.out.size))
  clear hb2 y0 y1 y2 y3 cL
  obtain ⟨⟨x0, x1, x2, x3, x4⟩, ⟨x5, x6, x7, x8, x9⟩, x10⟩ := pair_cells (HX.out w2 HW2.out)
  go_wp2_with fail
  refine (cM.out w2 HB2.out).mono ?_
  rintro e w3 ⟨ma, mc, fa, fc, ta, tc, rfl, hb3⟩
  have HW3 := Lib.hid (HW2.out.trans (hb3.mono HW2.out.size))
  have HB3 := Lib.hid (HB2.out.trans (hb3.mono HB2.out.size))
  clear hb3 cM x0 x1 x2 x3 x4 x5 x6 x7 x8 x9 x10
  obtain ⟨ca, hca⟩ : ∃ y, (#[.int .i64 0, .int .i64 0, .int .i64 0, .string ⟨#[]⟩, .slice ma 0 mc] : Array Value) = y := ⟨_, rfl⟩
  obtain ⟨cb, hcb⟩ : ∃ y, (#[.int .i64 0, .int .i64 0, .int .i64 0, .int .i64 0, .string ⟨#[]⟩, .slice fa 0 fc, .slice ta 0 tc] : Array Value) = y := ⟨_, rfl⟩
  obtain ⟨wA, hwA⟩ : ∃ X, (w3.alloc (.cells #[.int .i64 0, .int .i64 0, .int .i64 0, .string ⟨#[]⟩, .slice none 0 0] 31)).alloc (.cells #[.int .i64 0, .int .i64 0, .int .i64 0, .int .i64 0, .string ⟨#[]⟩, .slice none 0 0, .slice none 0 0] 36) = X := ⟨_, rfl⟩
  have hbx : box2W w3 = wA := hwA
  have h1 := box2_one w3
  have h2 := box2_two w3 ca
  rw [hbx] at h1 h2
  have HZ1 := Lib.hid h1
  have HZ2 := Lib.hid h2
  clear h1 h2
  have h1 := box2_a w3 ca cb
  have h2 := box2_b w3 ca cb
  have h3 := box2_below w3 ca cb
  unfold box2F at h1 h2 h3
  rw [hbx] at h1 h2 h3
  clear hbx
  go_upto_region 4 with (first | (refine wpList_store_row rfl 31 (.tmp 5) (.tmp 30) rfl w3.heap.size ca rfl (by rw [← hca]; rfl) 31 _ (by (try rw [hwA]); exact HZ1.out) (by rw [← hca]; kernel_rfl) (by rw [← hca]; rfl) (by rw [← hca]; simp [Value.oneCell']) ?_) | (refine wpList_store_row rfl 36 (.tmp 6) (.tmp 31) rfl (w3.heap.size + 1) cb rfl (by rw [← hcb]; rfl) 36 _ (by (try rw [hwA]); exact HZ2.out) (by rw [← hcb]; kernel_rfl) (by rw [← hcb]; rfl) (by rw [← hcb]; simp [Value.oneCell']) ?_))
  (try rw [hwA])
  obtain ⟨w4, hW7⟩ : ∃ X, (wA.setRow w3.heap.size ca).setRow (w3.heap.size + 1) cb = X := ⟨_, rfl⟩
  rw [hW7] at h1 h2 h3
  rw [← hca] at h1
  rw [← hcb] at h2
  (try rw [hW7])
  have HaN := Lib.hid (Nat.le_refl w3.heap.size)
  obtain ⟨n5, hnA⟩ : ∃ y, w3.heap.size = y := ⟨_, rfl⟩
  rw [hnA] at h1 h2 HaN
  (try rw [hnA])
  have HaE := Lib.hid hnA
  have HaA := Lib.hid h1
  have HaP := Lib.hid h2
  have HaB := Lib.hid h3
  clear h1 h2 h3 hW7 hwA HZ1 HZ2 hca hcb hnA
  have q0 : (ee == 0) = false := beq_false_of_ne he
  have d0 : decide (ee = 0) = false := decide_eq_false he
  have HB4 := Lib.hid (HB3.out.trans (HaB.out.mono HB3.out.size))
  clear he
  go_wp2_with fail
  refine (lalive16_any w4 (HE.out w4 HB4.out)).mono ?_
  rintro e w5 ⟨rfl, hb5⟩
  have HB5 := Lib.hid (HB4.out.trans (hb5.mono HB4.out.size))
  obtain ⟨⟨-, -, -, -, z4⟩, -⟩ := rcells ((hb5.block _ (Array.getElem?_eq_some_iff.1 HaA.out).1).trans HaA.out)
  obtain ⟨⟨-, -, -, -, -, -, z6⟩, -⟩ := pcells16 ((hb5.block _ (Array.getElem?_eq_some_iff.1 HaP.out).1).trans HaP.out)
  clear hb5
  go_wp2
  first | exact ⟨rfl, HB5.out⟩ | (go_ret; exact ⟨rfl, HB5.out⟩)
end

end Go.Proofs.YtceneblmllpdnaaDoor
