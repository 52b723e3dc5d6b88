/- Merged: KR16. -/
import Derived.Test.YtceneblmllpdnaaDoorQ27
import Derived.Test.YtceneblmllpdnaaDoorQ28
import Derived.Test.YtceneblmllpdnaaDoorQ26
import Derived.Test.YtceneblmllpdnaaDoorQ23
namespace Go.Proofs.YtceneblmllpdnaaDoor

section
open Go.RowKit Go.PlainAid Go.Shelf
attribute [local go_sem] Oper.semAt_some

theorem results_cell_two16 {P : Program} {fn : Func} {p u v : Tmp} {tp : TypeId} (h : fn.results = #[.cell p tp, .tmp u, .tmp v]) (tmps : Array Value) (w : World) (g : Nat) (tg : TypeId) (cs : Array Value) (fr : Nat × Nat) (d : TypeDesc)
    (hp : tmps.getD p undef = .pointer (some ⟨g, 0, none⟩)) (hg : w.heap[g]? = some (.cells cs tg fr))
    (hu : P.underlying tp = some d) (hd : (match d with | .struct _ | .array _ _ => true | _ => false) = true) (hi : (P.info? tp).map (·.size) = some cs.size) :
    (results fn tmps).run P w = .ok (.tuple #[.agg cs, tmps.getD u undef, tmps.getD v undef]) w := by
  have e1 : (results fn tmps).run P w = ((asAddr (tmps.getD p undef)).run P w).andThen fun a w1 => ((loadVar tp a).run P w1).andThen fun x w2 => .ok (.tuple #[x, tmps.getD u undef, tmps.getD v undef]) w2 := by
    simp only [results, h]
    simp [Sem.run_bind, Result.andThen]
  rw [e1, hp]
  simp [asAddr, run_loadVar_row w g tg tp cs fr d hg hu hd hi, Result.andThen]
/-- What last answers. -/
def LastV (L : List Fld) (f : Fld) (v : Value) : Prop := (v = .int .i64 (-1) ∧ f ∉ L) ∨ ∃ A B : List Fld, v = .int .i64 (A.length : Int) ∧ L = A ++ f :: B ∧ f ∉ B
def SP.last16 (L : List Fld) (f : Fld) : SP := ⟨fun v _ => LastV L f v, fun _ _ _ h _ => h⟩
theorem last_res {L : List Fld} {f : Fld} {e : Ending} (h : (e = .returned (.int .i64 (-1)) ∧ f ∉ L) ∨ (∃ A B : List Fld, e = .returned (.int .i64 (A.length : Int)) ∧ L = A ++ f :: B ∧ f ∉ B)) : ∃ x, e = .returned x ∧ LastV L f x := by
  rcases h with ⟨h1, h2⟩ | ⟨A, B, h1, h2, h3⟩
  · exact ⟨_, h1, .inl ⟨rfl, h2⟩⟩
  · exact ⟨_, h1, .inr ⟨A, B, rfl, h2, h3⟩⟩
theorem partF_snoc (g : Nat → Fld) : ∀ (T : List Nat) (k : Nat) (s : List Fld × Bool), partF g (T ++ [k]) s = ((woF (partF g T s).1 (g k)).1, (partF g T s).2 && (woF (partF g T s).1 (g k)).2)
  | [], _, _ => rfl
  | x :: T, k, s => by rw [List.cons_append, partF, partF_snoc g T k]; rfl
theorem remL_at (A B : List Fld) (f : Fld) : remL (A ++ f :: B) A.length = A ++ B := by
  unfold remL
  rw [List.take_left' rfl]
  congr 1
  rw [show A ++ f :: B = (A ++ [f]) ++ B by simp]
  exact List.drop_left' (by simp)
theorem woF_len (L : List Fld) (f : Fld) : (woF L f).1.length ≤ L.length := by
  by_cases h : f ∈ L
  · induction L with
    | nil => simp [woF]
    | cons x L ih =>
      rw [woF]
      split
      · rename_i h2
        by_cases h3 : f ∈ L
        · simpa using ih h3
        · rw [woF_none L f h3] at h2; cases h2
      · split <;> simp
  · rw [woF_none L f h]
    exact Nat.le_refl _
theorem partF_len (g : Nat → Fld) : ∀ (T : List Nat) (s : List Fld × Bool), (partF g T s).1.length ≤ s.1.length
  | [], _ => Nat.le_refl _
  | k :: T, s => by
    rw [partF]
    exact Nat.le_trans (partF_len g T _) (woF_len _ _)
theorem TL.opened2 {v : Value} {A : List Int} {w : World} (h : TL v A w) : ∃ a cap g o, v = .slice a A.length cap ∧ (0 < A.length → a = some ⟨g, o, none⟩ ∧ g < w.heap.size) ∧ g ≤ w.heap.size ∧ ∀ W, Below w.heap.size w W → ∀ i, i < A.length → W.cell? ⟨g, o + i, none⟩ = some (.int .i64 (A.getD i 0)) := by
  obtain ⟨a, cap, g, o, h1, -, -, h2, h3⟩ := h.opened
  by_cases h0 : 0 < A.length
  · exact ⟨a, cap, g, o, h1, h2, Nat.le_of_lt (h2 h0).2, h3⟩
  · exact ⟨a, cap, 0, 0, h1, fun h => absurd h h0, Nat.zero_le _, fun W _ i hi => by omega⟩
/-- The fields that are taken, from the last one on. -/
def backF (F : List Fld) (T : List Int) (M : List Fld) : List Fld × Bool := partF (fun j => F.getD (T.getD j 0).toNat fd0) (descN T.length T.length) (M, true)

set_option maxRecDepth 100000 in
set_option maxHeartbeats 32000000 in
theorem mparted_any (r : Rec) (u : Value) (p : Prt) (fv tv : Value) (w : World) (hE : Env w) (hu : FL u r.fields w) (hf : FL fv p.frm.fields w) (ht : TL tv p.taken w) (hbr : BndR r) (hb : BndR p.frm) (hz : p.taken.length ≤ 1000000) (hr : rightP p.into p.frm p.taken = 0) (hid : r.id = p.into) :
    Calls Tryd.prog 36 #[RV r u, PgV p fv tv] w fun e w' => ∃ rv, e = .returned (.tuple #[RV r rv, .bool (backF p.frm.fields p.taken r.fields).2, .int .i64 0]) ∧ FT w.heap.size rv (backF p.frm.fields p.taken r.fields).1 w' ∧ Below w.heap.size w w' := by
  obtain ⟨Q, hQ⟩ : ∃ Q, (fun (e : Ending) (w' : World) => ∃ rv, e = .returned (.tuple #[RV r rv, .bool (backF p.frm.fields p.taken r.fields).2, .int .i64 0]) ∧ FT w.heap.size rv (backF p.frm.fields p.taken r.fields).1 w' ∧ Below w.heap.size w w') = Q := ⟨_, rfl⟩
  rw [hQ]
  have HQ : RowKit.Hid (∀ rv bb W, (backF p.frm.fields p.taken r.fields).2 = bb → FT w.heap.size rv (backF p.frm.fields p.taken r.fields).1 W → Below w.heap.size w W → Q (.returned (.tuple #[.agg #[.int .i64 r.id, .int .i64 r.ver, .int .i64 r.kind, .string (S r.lang), rv], .bool bb, .int .i64 0])) W) := by
    rw [← hQ]
    exact fun rv bb W h0 h1 h2 => ⟨rv, by rw [h0]; rfl, h1, h2⟩
  obtain ⟨-, -, -, -, -, hin, -⟩ := rightP_ok p hr
  obtain ⟨W0, hW0⟩ : ∃ W0, ((w.alloc (.cells #[.int .i64 r.id, .int .i64 r.ver, .int .i64 r.kind, .string (S r.lang), u] 31)).alloc (.cells #[.int .i64 p.into, .int .i64 p.frm.id, .int .i64 p.frm.ver, .int .i64 p.frm.kind, .string (S p.frm.lang), fv, tv] 36)).alloc (.cells #[.int .i64 0, .int .i64 0, .int .i64 0, .string ⟨#[]⟩, .slice none 0 0] 31) = W0 := ⟨_, rfl⟩
  have b0 : Below w.heap.size w W0 := by rw [← hW0]; exact (((Below.refl w.heap.size w).alloc (Nat.le_refl _) _).alloc (by simp) _).alloc (by simp <;> omega) _
  have hsz0 : W0.heap.size = w.heap.size + 3 := by rw [← hW0]; simp
  have hX : W0.heap[w.heap.size]? = some (.cells #[.int .i64 r.id, .int .i64 r.ver, .int .i64 r.kind, .string (S r.lang), u] 31 (0, 0)) := by
    rw [← hW0]
    exact (Below.heap_alloc _ _ _ (by simp <;> omega)).trans ((Below.heap_alloc _ _ _ (by simp)).trans (heap_alloc_new w _))
  have hP : PBx (w.heap.size + 1) p fv tv W0 := by
    unfold PBx
    rw [← hW0]
    refine (Below.heap_alloc _ _ _ (by simp)).trans ?_
    have := heap_alloc_new (w.alloc (.cells #[.int .i64 r.id, .int .i64 r.ver, .int .i64 r.kind, .string (S r.lang), u] 31)) (.cells #[.int .i64 p.into, .int .i64 p.frm.id, .int .i64 p.frm.ver, .int .i64 p.frm.kind, .string (S p.frm.lang), fv, tv] 36)
    simpa using this
  have hZ : W0.heap[w.heap.size + 2]? = some (.cells #[.int .i64 0, .int .i64 0, .int .i64 0, .string ⟨#[]⟩, .slice none 0 0] 31 (0, 0)) := by
    rw [← hW0]
    have := heap_alloc_new ((w.alloc (.cells #[.int .i64 r.id, .int .i64 r.ver, .int .i64 r.kind, .string (S r.lang), u] 31)).alloc (.cells #[.int .i64 p.into, .int .i64 p.frm.id, .int .i64 p.frm.ver, .int .i64 p.frm.kind, .string (S p.frm.lang), fv, tv] 36)) (.cells #[.int .i64 0, .int .i64 0, .int .i64 0, .string ⟨#[]⟩, .slice none 0 0] 31)
    simpa using this
  have cR := Lib.hid (pRightP_any p fv tv W0 (hE.after b0) (hf.after b0) (ht.after b0) hb hz hr)
  have cK := Lib.hid (fun (W : World) (h : Below W0.heap.size W0 W) => mclone_any r u W (hu.after (b0.trans (h.mono b0.size))) (by have := hbr.fields; omega) (fun f hf => by have := hbr.subs f hf; omega))
  obtain ⟨fa, fc, fg, fo, us, hfv, -, hfm, hfg, hfx⟩ := id hf.open16
  obtain ⟨ta, tc, tg, tgo, htv, htg, htgl, htx⟩ := id ht.opened2
  obtain ⟨ua, uc, hua, -, -⟩ := hu.length
  have HX := Lib.hid (fun (W : World) (h : Below W0.heap.size W0 W) => (h.block w.heap.size (by omega)).trans hX)
  have HP := Lib.hid (fun (W : World) (h : Below W0.heap.size W0 W) => hP.after h)
  have HZ := Lib.hid (fun (W : World) (h : Below W0.heap.size W0 W) => (h.block (w.heap.size + 2) (by omega)).trans hZ)
  have HB0 := Lib.hid b0
  have HS0 := Lib.hid hsz0
  have HIn := Lib.hid hin
  have HFx := Lib.hid hfx
  have HTx := Lib.hid htx
  have HTg := Lib.hid htg
  have HTl := Lib.hid htgl
  have HFg := Lib.hid hfg
  have HRf := Lib.hid (show r.fields.length ≤ 10000 from hbr.fields)
  have HW0 := Lib.hid hW0
  have hid2 : (r.id == p.into) = true := by rw [hid]; simp
  have hid3 : decide (r.id = p.into) = true := decide_eq_true hid
  have HBk : RowKit.Hid (∀ pre, (partF (fun j => p.frm.fields.getD (p.taken.getD j 0).toNat fd0) pre (r.fields, true)).1.length ≤ 10000) := fun pre => Nat.le_trans (partF_len _ _ _) HRf.out
  unfold PBx at HP
  unfold RV at *
  unfold PgV at *
  subst hfv htv hua
  obtain ⟨⟨x0, x1, x2, x3, x4⟩, -⟩ := rcells hX
  obtain ⟨⟨p0, p1, p2, p3, p4, p5, p6⟩, -⟩ := pcells16 hP
  clear hQ hin hW0 b0 hsz0 hX hP hZ hE hu hf ht hbr hb hr hfx htx htg htgl hfg hfm hid
  obtain ⟨fn_, hfn⟩ : ∃ n, p.frm.fields.length = n := ⟨_, rfl⟩
  obtain ⟨tn, htn⟩ : ∃ n, p.taken.length = n := ⟨_, rfl⟩
  have HFn := Lib.hid hfn
  have HTn := Lib.hid htn
  rw [hfn] at HP HIn cR HFx HFg HW0 p5 ⊢
  unfold backF at HQ
  rw [htn] at HP cR HTx HTg hz HW0 p6 HQ ⊢
  clear hfn htn
  generalize S r.lang = lr at *
  generalize r.id = rid at *
  generalize r.ver = rver at *
  generalize r.kind = rkind at *
  generalize S p.frm.lang = lp at *
  generalize p.frm.id = fid at *
  generalize p.frm.ver = fver at *
  generalize p.frm.kind = fkind at *
  generalize p.into = pin at *
  refine (callsIn_wide (n := 8)).1 ?_
  refine callsIn_of_wp_marks Tryd.func36 rfl trivial ?_ rfl
  simp only [Tryd.ntmps36, List.size_toArray, List.length_cons, List.length_nil, Nat.reduceAdd, Nat.reduceSub, Array.replicate_succ, Array.replicate_zero, List.push_toArray, List.append_toArray, List.nil_append, List.cons_append]
  refine wpIn_wide.2 ?_
  go_upto_region 1 with fail
  (try rw [HW0.out])
  clear HW0
  go_wp2_with fail
  refine cR.out.mono ?_
  rintro e w1 ⟨rfl, hb1⟩
  have HB1 := Lib.hid hb1
  clear cR hb1 x0 x1 x2 x3 x4 p0 p1 p2 p3 p4 p5 p6
  obtain ⟨⟨x0, x1, x2, x3, x4⟩, -⟩ := rcells (HX.out w1 HB1.out)
  obtain ⟨⟨p0, p1, p2, p3, p4, p5, p6⟩, -⟩ := pcells16 (HP.out w1 HB1.out)
  go_wp2_with fail
  refine (cK.out w1 HB1.out).mono ?_
  rintro e w2 ⟨rv0, rfl, hf2, hb2, hsz2⟩
  have HB2 := Lib.hid (HB1.out.trans (hb2.mono HB1.out.size))
  obtain ⟨B, hB⟩ : ∃ B, w1.heap.size + 2 = B := ⟨_, rfl⟩
  rw [hB] at hf2
  obtain ⟨ra0, rc0, rfl⟩ := hf2.form
  have HF2 := Lib.hid hf2
  have HBB := Lib.hid (show w.heap.size + 5 ≤ B ∧ B ≤ w2.heap.size from ⟨by have := HB1.out.size; have := HS0.out; omega, by omega⟩)
  clear hb2 hf2 hB hsz2 cK x0 x1 x2 x3 x4 p0 p1 p2 p3 p4 p5 p6
  go_upto_region 7 with fail
  obtain ⟨bR, hbR⟩ : ∃ x, w2.heap.size = x := ⟨_, rfl⟩
  obtain ⟨w4, hw4⟩ : ∃ X, ((w2.alloc (.cells #[.int .i64 rid, .int .i64 rver, .int .i64 rkind, .string lr, .slice ra0 r.fields.length rc0] 31)).alloc (.cells #[.bool true] 4)).alloc (.cells #[.slice ta tn tc] 34) = X := ⟨_, rfl⟩
  have b4 : Below w2.heap.size w2 w4 := by rw [← hw4]; exact (((Below.refl w2.heap.size w2).alloc (Nat.le_refl _) _).alloc (by simp) _).alloc (by simp <;> omega) _
  have hs4 : w4.heap.size = bR + 3 := by rw [← hw4, ← hbR]; simp
  have hR4 : w4.heap[bR]? = some (.cells #[.int .i64 rid, .int .i64 rver, .int .i64 rkind, .string lr, .slice ra0 r.fields.length rc0] 31 (0, 0)) := by
    rw [← hw4, ← hbR]
    exact (Below.heap_alloc _ _ _ (by simp <;> omega)).trans ((Below.heap_alloc _ _ _ (by simp)).trans (heap_alloc_new w2 _))
  have hW4 : w4.heap[bR + 1]? = some (.cells #[.bool true] 4 (0, 0)) := by
    rw [← hw4, ← hbR]
    refine (Below.heap_alloc _ _ _ (by simp)).trans ?_
    have := heap_alloc_new (w2.alloc (.cells #[.int .i64 rid, .int .i64 rver, .int .i64 rkind, .string lr, .slice ra0 r.fields.length rc0] 31)) (.cells #[.bool true] 4)
    simpa using this
  have hS4 : w4.heap[bR + 2]? = some (.cells #[.slice ta tn tc] 34 (0, 0)) := by
    rw [← hw4, ← hbR]
    have := heap_alloc_new ((w2.alloc (.cells #[.int .i64 rid, .int .i64 rver, .int .i64 rkind, .string lr, .slice ra0 r.fields.length rc0] 31)).alloc (.cells #[.bool true] 4)) (.cells #[.slice ta tn tc] 34)
    simpa using this
  have HF4 := Lib.hid (HF2.out.after b4)
  have HB4 := Lib.hid (HB2.out.trans (b4.mono HB2.out.size))
  have HR4 := Lib.hid hR4
  have HW4 := Lib.hid hW4
  have HS4 := Lib.hid hS4
  have hBB := HBB.out
  have hBr : B ≤ bR := by omega
  obtain ⟨⟨p0, p1, p2, p3, p4, p5, p6⟩, -⟩ := pcells16 (HP.out _ (HB2.out.trans ((((Below.refl w2.heap.size w2).alloc (Nat.le_refl _) (.cells #[.int .i64 rid, .int .i64 rver, .int .i64 rkind, .string lr, .slice ra0 r.fields.length rc0] 31)).alloc (by simp) (.cells #[.bool true] 4)).mono HB2.out.size)))
  refine (wpIn_wide (n := 8)).1 ?_
  gi_wp2_with (refine ⟨trivial, ?_⟩; gi_at_call 48; refine (backI_in _ _ _ _ _).mono ?_; rintro e w' ⟨rfl, rfl⟩)
  clear p0 p1 p2 p3 p4 p5 p6
  simp only [Nat.add_assoc, Nat.reduceAdd]
  (try rw [hw4])
  refine (wpIn_wide (n := 8)).1 ?_
  gi_wp2
  clear hw4 hR4 hW4 hS4 b4
  have hws : w.heap.size ≤ B := by omega
  have hB4 : B ≤ w4.heap.size := by omega
  refine wpIn_rangeFunc_ownG rfl (by omega) (gf := 60) (lb := #[.pointer (some ⟨bR + 2, 0, none⟩)]) rfl trivial (enters_of Tryd.func60 (by kernel_rfl) rfl)
    (backI_stops _ (by omega) (bR + 2) ta tn tc (fun j => p.taken.getD j 0) hz tg tgo w4 (fun h => (HTg.out h).1) (fun h => by have := (HTg.out h).2; omega) ((Lib.cell_of_heap HS4.out 0).trans rfl) (by omega) (fun j hj => HTx.out w4 (HB0.out.trans (HB4.out.mono HB0.out.size)) j hj))
    (fun h k => Kp2.trans h k) (Kp2.put (by omega) (by have := HTl.out; omega)) (Below.refl _ _) (fun _ => rfl)
    (fun pre W => Below B w4 W ∧ (W.heap[bR + 2]? = w4.heap[bR + 2]? ∧ ∃ rv, FT B rv (partF (fun j => p.frm.fields.getD (p.taken.getD j 0).toNat fd0) pre (r.fields, true)).1 W ∧
      W.heap[bR]? = some (.cells #[.int .i64 rid, .int .i64 rver, .int .i64 rkind, .string lr, rv] 31 (0, 0)) ∧ W.heap[bR + 1]? = some (.cells #[.bool (partF (fun j => p.frm.fields.getD (p.taken.getD j 0).toNat fd0) pre (r.fields, true)).2] 4 (0, 0))))
    (fun _ _ _ => False)
    (OwnFrom.and (ownFrom_below hB4 hB4) (Own.from (fun (pre : List Nat) (X Y : World) row hs hg hr => by
      obtain ⟨h1, rv, h2, h3, h4⟩ := hs
      have hk : ∀ b cs t fr, X.heap[b]? = some (Obj.cells cs t fr) → Y.heap[b]? = X.heap[b]? := fun b cs t fr hb => hg.block b (Array.getElem?_eq_some_iff.1 hb).1 (fun e => by
        obtain ⟨o, ho, hc⟩ := hr b e.symm
        rw [hb] at ho
        cases ho
        cases hc)
      exact ⟨(hk _ _ _ _ (h1.trans HS4.out)).trans h1, rv, h2.kept ⟨hg.size, fun b cs t fr _ hb _ => hk b cs t fr hb⟩, (hk _ _ _ _ h3).trans h3, (hk _ _ _ _ h4).trans h4⟩) _))
    (fun _ _ _ _ _ hs _ _ => hs)
    ⟨Below.refl _ _, rfl, _, HF4.out, HR4.out, HW4.out⟩ ?a1 ?assign ?body ?done ?stop
  case assign =>
    intro l x W K hK
    gi_wp2
    exact hK
  case body =>
    rintro l pre x wq ⟨hB, hbS, rv, hft, hbR', hbW⟩ hlt
    have hlen := HBk.out pre
    have hsn := partF_snoc (fun j => p.frm.fields.getD (p.taken.getD j 0).toNat fd0) pre x (r.fields, true)
    obtain ⟨RL, hRL⟩ : ∃ X, (partF (fun j => p.frm.fields.getD (p.taken.getD j 0).toNat fd0) pre (r.fields, true)).1 = X := ⟨_, rfl⟩
    obtain ⟨wh, hwh⟩ : ∃ X, (partF (fun j => p.frm.fields.getD (p.taken.getD j 0).toNat fd0) pre (r.fields, true)).2 = X := ⟨_, rfl⟩
    rw [hRL] at hft hlen hsn
    rw [hwh] at hbW hsn
    -- the index
    have hpos : ∃ k ∈ p.taken, p.taken.getD x 0 = k ∨ p.taken.getD x 0 = 0 := by
      have h0 : 0 < p.taken.length := by rw [HTn.out]; omega
      by_cases hx : x < p.taken.length
      · exact ⟨p.taken[x], List.getElem_mem hx, .inl (by rw [List.getD_eq_getElem?_getD, List.getElem?_eq_getElem hx]; rfl)⟩
      · exact ⟨p.taken[0], List.getElem_mem h0, .inr (by rw [List.getD_eq_getElem?_getD, List.getElem?_eq_none (by omega)]; rfl)⟩
    obtain ⟨zi, hzi, hzl⟩ : ∃ zi : Nat, p.taken.getD x 0 = (zi : Int) ∧ zi < fn_ := by
      obtain ⟨k, hk, hk2⟩ := hpos
      have := HIn.out k hk
      rcases hk2 with e | e
      · exact ⟨k.toNat, by rw [e]; omega, by omega⟩
      · exact ⟨0, by rw [e]; rfl, by omega⟩
    have hzt : (p.taken.getD x 0).toNat = zi := by rw [hzi]; exact Int.toNat_natCast zi
    simp only [hzt] at hsn
    obtain ⟨f, hf⟩ : ∃ f, p.frm.fields.getD zi fd0 = f := ⟨_, rfl⟩
    have hbq : Below w.heap.size w wq := HB0.out.trans ((HB4.out.trans (hB.mono (by have := HS0.out; omega))).mono HB0.out.size)
    obtain ⟨⟨c0, c1, c2, c3⟩, hq⟩ := HFx.out wq hbq zi hzl
    obtain ⟨xa, xc, hxu, -, -⟩ := hq.length
    obtain rfl := HFg.out (by omega)
    rw [hf] at hsn hq c0 c1 c3 hxu
    rw [hxu] at c2 hq
    have hfgl : fg < wq.heap.size := by
      rcases Nat.lt_or_ge fg wq.heap.size with h1 | h1
      · exact h1
      · rw [World.cell?] at c0
        simp [Array.getElem?_eq_none h1] at c0
    obtain ⟨ra, rc, rfl⟩ := hft.form
    have hPq := HP.out wq (HB4.out.trans (hB.mono (by have := HS0.out; omega)))
    have hltR := (Array.getElem?_eq_some_iff.1 hbR').1
    have hltW := (Array.getElem?_eq_some_iff.1 hbW).1
    have hltP := (Array.getElem?_eq_some_iff.1 hPq).1
    have HBoxr := Lib.hid (fun (W : World) (h : Below wq.heap.size wq W) => (h.block bR hltR).trans hbR')
    have HPx := Lib.hid (fun (W : World) (h : Below wq.heap.size wq W) => (h.block (w.heap.size + 1) hltP).trans hPq)
    have HCx := Lib.hid (fun (W : World) (h : Below wq.heap.size wq W) => show W.cell? ⟨fg, fo + zi * 4, none⟩ = some (.string (S f.tag)) ∧ W.cell? ⟨fg, fo + zi * 4 + 1, none⟩ = some (.string (S f.ind)) ∧ W.cell? ⟨fg, fo + zi * 4 + 2, none⟩ = some (.slice xa f.subs.length xc) ∧ W.cell? ⟨fg, fo + zi * 4 + 3, none⟩ = some (.int .i64 f.auth) from
      ⟨(h.cell (p := ⟨fg, fo + zi * 4, none⟩) hfgl).trans c0, (h.cell (p := ⟨fg, fo + zi * 4 + 1, none⟩) hfgl).trans c1, (h.cell (p := ⟨fg, fo + zi * 4 + 2, none⟩) hfgl).trans c2, (h.cell (p := ⟨fg, fo + zi * 4 + 3, none⟩) hfgl).trans c3⟩)
    have cS := Lib.hid (fun (W : World) (h : Below wq.heap.size wq W) => msame_any f (.slice xa f.subs.length xc) W (hq.after h))
    have cL := Lib.hid (fun (W : World) (h : Below wq.heap.size wq W) (bx : Nat) (hx : FBx bx f (.slice xa f.subs.length xc) W) => mlast_any RL (.slice ra RL.length rc) f (.slice xa f.subs.length xc) bx W (hft.after h).fl hx (by omega))
    have HFTr := Lib.hid (fun (W : World) (h : Below wq.heap.size wq W) => hft.after h)
    have HWr := Lib.hid (fun (W : World) (h : Below wq.heap.size wq W) => (h.block (bR + 1) hltW).trans hbW)
    have HBr := Lib.hid (fun (W : World) (h : Below wq.heap.size wq W) => hB.trans (h.mono (Nat.le_trans hB4 hB.size)))
    have HSr := Lib.hid (fun (W : World) (h : Below wq.heap.size wq W) => (h.block (bR + 2) (Array.getElem?_eq_some_iff.1 (hbS.trans HS4.out)).1).trans hbS)
    have HBq := Lib.hid hB
    have HSq := Lib.hid hbS
    have HLn := Lib.hid hlen
    have HSn := Lib.hid hsn
    have hi1 : (0 : Int) ≤ (zi : Int) := by omega
    have hi2 : (zi : Int) < (fn_ : Int) := by omega
    unfold FV at cS
    clear hbq hft hPq hltR hltW hltP hB hbS hbR' hbW hlen hsn hRL hwh hpos hzt hf hq hxu c0 c1 c2 c3 hfgl hlt hzl
    obtain ⟨ft, h1⟩ : ∃ x, S f.tag = x := ⟨_, rfl⟩
    obtain ⟨fi, h2⟩ : ∃ x, S f.ind = x := ⟨_, rfl⟩
    obtain ⟨fau, h3⟩ : ∃ x, f.auth = x := ⟨_, rfl⟩
    obtain ⟨xn, h4⟩ : ∃ x, f.subs.length = x := ⟨_, rfl⟩
    rw [h1, h2, h3, h4] at cS
    simp only [h1, h2, h3, h4] at HCx
    rw [h4] at cL
    clear h1 h2 h3 h4
    rw [List.getD_eq_getElem?_getD] at hzi
    simp only [hzi]
    clear hzi
    gi_wp2
    apply round_region_inv (V := [.eq (.pointer (some ⟨bR, 4, none⟩)), .eq (.slice ra RL.length rc), .eq (.pointer (some ⟨w.heap.size + 1, 1, none⟩)), .eq (.pointer (some ⟨w.heap.size + 1, 5, none⟩)), .eq (.slice (some ⟨fg, fo, none⟩) fn_ fc), .eq (.int .i64 (zi : Int)), .eq (.pointer (some ⟨fg, fo + zi * 4, none⟩)), .eq (.agg #[.string ft, .string fi, .slice xa xn xc, .int .i64 fau]), SP.sm16 f (.slice xa xn xc), SP.last16 RL f, SP.last16 RL f])
    case hm => kernel_rfl
    case hd => kernel_rfl
    case hb => kernel_rfl
    case hnd => kernel_rfl
    case hA =>
      intro vs
      simp only [puts, Act.put, List.setIfInBounds_toArray, List.set_cons_zero, List.set_cons_succ]
      exact rfl
    case hob =>
      refine Obs.cons _ _ _ _ _ _ ?o0 (Obs.cons _ _ _ _ _ _ ?o1 (Obs.cons _ _ _ _ _ _ ?o2 (Obs.cons _ _ _ _ _ _ ?o3 (Obs.cons _ _ _ _ _ _ ?o4 (Obs.cons _ _ _ _ _ _ ?o5 (Obs.cons _ _ _ _ _ _ ?o6 (Obs.cons _ _ _ _ _ _ ?o7 (Obs.cons _ _ _ _ _ _ ?o8 (Obs.cons _ _ _ _ _ _ ?o9 (Obs.cons _ _ _ _ _ _ ?o10 (Obs.nil _ _ _ _ _ _)))))))))))
      case o0 =>
        intro vs W hw hd K hK
        go_simp
        exact hK.out _ _ rfl (Below.refl _ _)
      case o1 =>
        intro vs W hw hd K hK
        have h0 : vs 0 = .pointer (some ⟨bR, 4, none⟩) := hd 0 (by kernel_rfl)
        obtain ⟨⟨m0, m1, m2, m3, m4⟩, -⟩ := rcells (HBoxr.out W hw)
        simp only [Nat.reduceAdd, h0] at hK ⊢
        go_simp
        exact hK.out _ _ rfl (Below.refl _ _)
      case o2 =>
        intro vs W hw hd K hK
        go_simp
        exact hK.out _ _ rfl (Below.refl _ _)
      case o3 =>
        intro vs W hw hd K hK
        have h2 : vs 2 = .pointer (some ⟨w.heap.size + 1, 1, none⟩) := hd 2 (by kernel_rfl)
        simp only [Nat.reduceAdd, h2] at hK ⊢
        go_simp
        exact hK.out _ _ rfl (Below.refl _ _)
      case o4 =>
        intro vs W hw hd K hK
        have h3 : vs 3 = .pointer (some ⟨w.heap.size + 1, 5, none⟩) := hd 3 (by kernel_rfl)
        obtain ⟨⟨p0, p1, p2, p3, p4, p5, p6⟩, -⟩ := pcells16 (HPx.out W hw)
        simp only [Nat.reduceAdd, h3] at hK ⊢
        go_simp
        exact hK.out _ _ rfl (Below.refl _ _)
      case o5 =>
        intro vs W hw hd K hK
        go_simp
        exact hK.out _ _ rfl (Below.refl _ _)
      case o6 =>
        intro vs W hw hd K hK
        have h4 : vs 4 = .slice (some ⟨fg, fo, none⟩) fn_ fc := hd 4 (by kernel_rfl)
        have h5 : vs 5 = .int .i64 (zi : Int) := hd 5 (by kernel_rfl)
        simp only [Nat.reduceAdd, h4, h5] at hK ⊢
        go_simp
        exact hK.out _ _ rfl (Below.refl _ _)
      case o7 =>
        intro vs W hw hd K hK
        have h6 : vs 6 = .pointer (some ⟨fg, fo + zi * 4, none⟩) := hd 6 (by kernel_rfl)
        obtain ⟨c0, c1, c2, c3⟩ := HCx.out W hw
        simp only [Nat.reduceAdd, h6] at hK ⊢
        go_simp
        exact hK.out _ _ rfl (Below.refl _ _)
      case o8 =>
        intro vs W hw hd K hK
        have h7 : vs 7 = .agg #[.string ft, .string fi, .slice xa xn xc, .int .i64 fau] := hd 7 (by kernel_rfl)
        simp only [Nat.reduceAdd, h7] at hK ⊢
        go_simp
        refine (cS.out W hw).mono ?_
        rintro e W' ⟨rfl, hs, hb'⟩
        exact hK.out _ _ ⟨_, rfl, hs⟩ hb'
      case o9 =>
        intro vs W hw hd K hK
        have h1 : vs 1 = .slice ra RL.length rc := hd 1 (by kernel_rfl)
        obtain ⟨bx, e8, hbx⟩ : ∃ b, vs 8 = .func (.func 55) #[] #[.pointer (some ⟨b, 0, none⟩)] ∧ FBx b f (.slice xa xn xc) W := hd 8 (by kernel_rfl)
        simp only [Nat.reduceAdd, h1, e8] at hK ⊢
        go_simp
        refine (cL.out W hw bx hbx).mono ?_
        rintro e W' ⟨h1, hb'⟩
        obtain ⟨x, rfl, hx⟩ := last_res h1
        exact hK.out _ _ hx hb'
      case o10 =>
        intro vs W hw hd K hK
        have h9 : LastV RL f (vs 9) := hd 9 (by kernel_rfl)
        go_simp
        exact hK.out _ _ h9 (Below.refl _ _)
    case hfin =>
      intro vs W hw hd
      have h10 : LastV RL f (vs 10) := hd 10 (by decide)
      have hWc := HWr.out W hw
      have hRc := HBoxr.out W hw
      have wz := Lib.frozen_of_heap hWc 0
      have wc := (Lib.cell_of_heap hWc 0).trans rfl
      rcases h10 with ⟨e10, hno⟩ | ⟨LA, LB, e10, hLe, hno⟩
      · simp only [Nat.reduceAdd, e10]
        have hP1 : (partF (fun j => p.frm.fields.getD (p.taken.getD j 0).toNat fd0) (pre ++ [x]) (r.fields, true)) = (RL, false) := by
          rw [HSn.out, woF_none RL f hno, Bool.and_false]
        have HP1 := Lib.hid hP1
        have HWc := Lib.hid hWc
        have HRc := Lib.hid hRc
        have HFc := Lib.hid (HFTr.out W hw)
        have HBc := Lib.hid (HBr.out W hw)
        have HSc := Lib.hid (HSr.out W hw)
        have Hw := Lib.hid hw
        clear hP1 hWc hRc hd e10 hw HWr HBoxr HFTr HBr HSr cS cL HPx HCx hno
        gi_wp2
        have hs5 : (W.setCell ⟨bR + 1, 0, none⟩ (.bool false)).heap.size = W.heap.size := by simp [World.setCell]
        have ho5 : ∀ i, i ≠ bR + 1 → (W.setCell ⟨bR + 1, 0, none⟩ (.bool false)).heap[i]? = W.heap[i]? := fun i hi => heap_setn _ _ _ _ hi
        have hw5 : (W.setCell ⟨bR + 1, 0, none⟩ (.bool false)).heap[bR + 1]? = some (.cells #[.bool false] 4 (0, 0)) := by
          have := HWc.out
          simp [World.setCell, Array.getElem?_modify, this]
        refine ⟨(keepsFrom_below Hw.out).trans ((KeepsOthers.setCell _ _ _).from _), ⟨(ho5 _ (by omega)).trans (HSc.out.trans HSq.out.symm), (ho5 _ (by have := HTl.out; omega)).trans ?_⟩, HBc.out.setCell (p := ⟨bR + 1, 0, none⟩) (by show B ≤ bR + 1; omega) _, (ho5 _ (by omega)).trans HSc.out, _, ?_, (ho5 _ (by omega)).trans HRc.out, ?_⟩
        · exact ((HBc.out.block tg (by have := HTl.out; omega)).trans (HBq.out.block tg (by have := HTl.out; omega)).symm)
        · rw [HP1.out]
          exact HFc.out.kept (KpF.but (Nat.le_of_eq hs5.symm) (fun i hi _ => ho5 i hi) HWc.out (by decide) (by decide))
        · rw [HP1.out]
          exact hw5
      · obtain ⟨NL, hNL⟩ : ∃ X, LA ++ LB = X := ⟨_, rfl⟩
        obtain ⟨kA, hkA⟩ : ∃ X, LA.length = X := ⟨_, rfl⟩
        have hrem : remL RL kA = NL := by rw [hLe, ← hkA, remL_at, hNL]
        have hkl : kA < RL.length := by rw [hLe, ← hkA]; simp
        have hwo : woF RL f = (NL, true) := by rw [hLe, woF_last LA LB f hno, hNL]
        rw [hkA] at e10
        simp only [Nat.reduceAdd, e10]
        have hP1 : (partF (fun j => p.frm.fields.getD (p.taken.getD j 0).toNat fd0) (pre ++ [x]) (r.fields, true)) = (NL, wh) := by
          rw [HSn.out, hwo, Bool.and_true]
        have hfc := HFTr.out W hw
        have hdl := fdelT_any B RL _ W hfc kA hkl (by have := HLn.out; omega)
        rw [hrem] at hdl
        have HDl := Lib.hid hdl
        have HP1 := Lib.hid hP1
        have HWc := Lib.hid hWc
        have HRc := Lib.hid hRc
        have HFc := Lib.hid hfc
        have HBc := Lib.hid (HBr.out W hw)
        have HSc := Lib.hid (HSr.out W hw)
        have Hw := Lib.hid hw
        obtain ⟨⟨m0, m1, m2, m3, m4⟩, -⟩ := rcells hRc
        have hla : decide ((kA : Int) < 0) = false := decide_eq_false (by omega)
        have hk1 : (0 : Int) ≤ (kA : Int) := by omega
        have hk2 : (kA : Int) ≤ 10000 := by have := HLn.out; omega
        clear hP1 hWc hRc hd e10 hw HWr HBoxr HFTr HBr HSr cS cL HPx HCx hno hfc hdl hLe hNL hkA hrem hkl hwo
        gi_wp2_with (refine ⟨trivial, ?_⟩; gi_at_call 50; refine (CallsIn.inRound l (callsIn_wide.2 HDl.out)).mono ?_; rintro e w5 ⟨v5, rfl, hf5, hb5, ho5, hs5⟩; have HR5 : RowKit.Hid (w5.heap[bR]? = some (.cells #[.int .i64 rid, .int .i64 rver, .int .i64 rkind, .string lr, .slice ra RL.length rc] 31 (0, 0))) := (ho5 bR (HFc.out.ne HRc.out (by decide))).trans HRc.out; obtain ⟨na, nc, rfl⟩ := hf5.form; obtain ⟨⟨n0, n1, n2, n3, n4⟩, z0, z1, z2, z3, z4⟩ := rcells HR5.out; have HF5 := Lib.hid hf5; have HB5 := Lib.hid hb5; have HO5 := Lib.hid ho5; have HS5 := Lib.hid hs5; clear hf5 hb5 ho5 hs5)
        have hs6 : (w5.setCell ⟨bR, 4, none⟩ (.slice na NL.length nc)).heap.size = w5.heap.size := by simp [World.setCell]
        have ho6 : ∀ i, i ≠ bR → (w5.setCell ⟨bR, 4, none⟩ (.slice na NL.length nc)).heap[i]? = w5.heap[i]? := fun i hi => heap_setn _ _ _ _ hi
        have hr6 : (w5.setCell ⟨bR, 4, none⟩ (.slice na NL.length nc)).heap[bR]? = some (.cells #[.int .i64 rid, .int .i64 rver, .int .i64 rkind, .string lr, .slice na NL.length nc] 31 (0, 0)) := by
          have := HR5.out
          simp [World.setCell, Array.getElem?_modify, this]
        have hob : ∀ b cs t fr, W.heap[b]? = some (Obj.cells cs t fr) → t ≠ 45 → w5.heap[b]? = W.heap[b]? := fun b cs t fr hb ht => HO5.out b (HFc.out.ne hb ht)
        have hw5 := (hob _ _ _ _ HWc.out (by decide)).trans HWc.out
        have hS5 := (hob _ _ _ _ (HSc.out.trans HS4.out) (by decide)).trans HSc.out
        have hB5 : Below B w4 w5 := HBc.out.trans HB5.out
        refine ⟨((keepsFrom_below Hw.out).trans ⟨Nat.le_of_eq HS5.out.symm, fun k o _ hk ho => ?_⟩).trans ((KeepsOthers.setCell _ _ _).from _), ⟨(ho6 _ (by omega)).trans (hS5.trans HSq.out.symm), (ho6 _ (by have := HTl.out; omega)).trans ?_⟩, hB5.setCell (p := ⟨bR, 4, none⟩) (by show B ≤ bR; omega) _, (ho6 _ (by omega)).trans hS5, _, ?_, hr6, ?_⟩
        · refine (HO5.out k (fun e => ?_)).trans hk
          obtain ⟨-, cs, hc⟩ := HFc.out.lt k e.symm
          rw [hk] at hc
          cases hc
          cases ho
        · exact ((hB5.block tg (by have := HTl.out; omega)).trans (HBq.out.block tg (by have := HTl.out; omega)).symm)
        · rw [HP1.out]
          exact HF5.out.kept (KpF.but (Nat.le_of_eq hs6.symm) (fun i hi _ => ho6 i hi) HR5.out (by decide) (by decide))
        · rw [HP1.out]
          exact (ho6 _ (by omega)).trans hw5
  case done =>
    rintro D ys W hD rfl ⟨hB, hbS, rv, hft, hbR', hbW⟩ hK
    have hbq : Below W0.heap.size W0 W := HB4.out.trans (hB.mono (by have := HS0.out; omega))
    have hz5 := HZ.out W hbq
    obtain ⟨rva, rvc, rfl⟩ := hft.form
    obtain ⟨⟨m0, m1, m2, m3, m4⟩, -⟩ := rcells hbR'
    have k0 := (Lib.cell_of_heap hbW 0).trans rfl
    obtain ⟨⟨y0, y1, y2, y3, y4⟩, q0, q1, q2, q3, q4⟩ := rcells hz5
    obtain ⟨WH, hWH⟩ : ∃ x, (partF (fun j => p.frm.fields.getD (p.taken.getD j 0).toNat fd0) (descN tn tn) (r.fields, true)).2 = x := ⟨_, rfl⟩
    obtain ⟨WL, hWL⟩ : ∃ x, (partF (fun j => p.frm.fields.getD (p.taken.getD j 0).toNat fd0) (descN tn tn) (r.fields, true)).1 = x := ⟨_, rfl⟩
    rw [hWH] at k0
    rw [hWL] at hft m4 hbR'
    have hWs : w.heap.size + 3 ≤ W.heap.size := by have := hbq.size; have := HS0.out; omega
    have hlR := (Array.getElem?_eq_some_iff.1 hbR').1
    have hlW := (Array.getElem?_eq_some_iff.1 hbW).1
    have hlD := (Array.getElem?_eq_some_iff.1 hK).1
    rw [hWH] at hbW
    obtain ⟨Xr, hXr⟩ : ∃ X, Obj.cells #[.int .i64 rid, .int .i64 rver, .int .i64 rkind, .string lr, .slice rva WL.length rvc] 31 (0, 0) = X := ⟨_, rfl⟩
    have HXr := Lib.hid hXr.symm
    have HRr : RowKit.Hid (w.heap.size + 2 < W.heap.size) := by unfold RowKit.Hid; omega
    have HR0 := Lib.hid hz5
    have HBe := Lib.hid (fun (X : World) (h : Ra w.heap.size (w.heap.size + 2) w.heap.size W.heap.size Xr (fun _ => Obj.cells #[] 3 (0, 0)) [] W X) => (h.but bR (by omega) (by omega) hlR).trans hbR')
    have HWe := Lib.hid (fun (X : World) (h : Ra w.heap.size (w.heap.size + 2) w.heap.size W.heap.size Xr (fun _ => Obj.cells #[] 3 (0, 0)) [] W X) => (h.but (bR + 1) (by omega) (by omega) hlW).trans hbW)
    have HSz : RowKit.Hid (w.heap.size ≤ W.heap.size) := by unfold RowKit.Hid; omega
    have HEnd : RowKit.Hid (∀ X, Ra w.heap.size (w.heap.size + 2) w.heap.size W.heap.size Xr (fun _ => Obj.cells #[] 3 (0, 0)) [] W X → PrX (w.heap.size + 2) Xr X → X.heap[D]? = some (.deferred (some [])) ∧ (X.putObj D (.deferred none)).heap[w.heap.size + 2]? = some (.cells #[.int .i64 rid, .int .i64 rver, .int .i64 rkind, .string lr, .slice rva WL.length rvc] 31 (0, 0)) ∧ Q (.returned (.tuple #[.agg #[.int .i64 rid, .int .i64 rver, .int .i64 rkind, .string lr, .slice rva WL.length rvc], .bool WH, .int .i64 0])) (X.putObj D (.deferred none))) := by
      intro X hR h1
      have hKD : X.heap[D]? = some (.deferred (some [])) := (hR.but D (by omega) (by omega) hlD).trans hK
      refine ⟨hKD, (World.putObj_heap_other (by omega)).trans (h1.trans (by rw [HXr.out])), HQ.out _ WH _ hWH ?_ ?_⟩
      · rw [hWL]
        refine (hft.kept ⟨Nat.le_trans hR.low.size (by simp [World.putObj]), fun b cs t fr hb hc _ => ?_⟩).base hws
        have hbd : b ≠ D := fun e => by
          subst e
          rw [hK] at hc
          cases hc
        exact (World.putObj_heap_other hbd).trans (hR.but b (by omega) (by omega) (Array.getElem?_eq_some_iff.1 hc).1)
      · exact ((HB0.out.trans (hbq.mono HB0.out.size)).trans hR.low).trans (belowK_b (w := w4) (by omega) _ D _ _ hD hKD rfl rfl)
    clear hXr hB hbS hft hbR' hbW hbq hz5 hWH hWL hK hlR hlW hlD m0 m1 m2 m3 m4 k0 y0 y1 y2 y3 y4 q0 q1 q2 q3 q4
    gi_wp2
    go_upto_region 13 with fail
    apply wp_region_rel (R := Ra w.heap.size (w.heap.size + 2) w.heap.size W.heap.size Xr (fun _ => Obj.cells #[] 3 (0, 0)) []) (V := [SPR.eq _ (.agg #[.int .i64 rid, .int .i64 rver, .int .i64 rkind, .string lr, .slice rva WL.length rvc]), SPR.eq _ (.bool WH), SPR.pr16 _ _ _ _ _ _ _, SPR.eq _ (.bool WH), SPR.eq _ (.int .i64 0)])
    case htrans => exact fun _ _ _ h k => h.trans k
    case hdrew => exact Ra.below HSz.out (Below.refl _ _).drew
    case hm => kernel_rfl
    case hd => kernel_rfl
    case hb => kernel_rfl
    case hA =>
      intro vs
      simp only [puts, Act.put, List.setIfInBounds_toArray, List.set_cons_zero, List.set_cons_succ]
      exact rfl
    case hob =>
      refine ObsR.cons _ _ _ _ _ _ _ ?o0 (ObsR.cons _ _ _ _ _ _ _ ?o1 (ObsR.cons _ _ _ _ _ _ _ ?o2 (ObsR.cons _ _ _ _ _ _ _ ?o3 (ObsR.cons _ _ _ _ _ _ _ ?o4 (ObsR.nil _ _ _ _ _ _ _)))))
      case o0 =>
        intro vs W_ hw hd K hK
        obtain ⟨⟨m0, m1, m2, m3, m4⟩, -⟩ := rcells (HBe.out W_ hw)
        go_simp
        exact hK.out _ _ rfl Ra.refl
      case o1 =>
        intro vs W_ hw hd K hK
        have k0 := (Lib.cell_of_heap (HWe.out W_ hw) 0).trans rfl
        go_simp
        exact hK.out _ _ rfl Ra.refl
      case o2 =>
        intro vs W_ hw hd K hK
        have h0 : vs 0 = .agg #[.int .i64 rid, .int .i64 rver, .int .i64 rkind, .string lr, .slice rva WL.length rvc] := hd 0 (by kernel_rfl)
        obtain ⟨cs, hcs, hz⟩ := hw.shr _ _ HR0.out
        have hS := Ra.rowR (n0 := w.heap.size) (p := w.heap.size) (N := W.heap.size) (Y := (fun _ => Obj.cells #[] 3 (0, 0))) (L := []) hcs HXr.out hz.symm (by omega) (by omega) HRr.out
        apply step_store_row16 (ty := 31) (x := .tmp 4) (y := .tmp 51) (g := w.heap.size + 2) (cells := #[.int .i64 rid, .int .i64 rver, .int .i64 rkind, .string lr, .slice rva WL.length rvc]) (t := 31) (old := cs)
        case hgd => rfl
        case ho => rfl
        case hx => simp [Act.eval]
        case hy => simp [Act.eval, h0]
        case hg => exact hcs
        case hi => kernel_rfl
        case hold => exact hz
        case h1 => simp [Value.oneCell']
        case h => exact hK.out undef _ hS.2 hS.1
      case o3 =>
        intro vs W_ hw hd K hK
        have h1 : vs 1 = .bool WH := hd 1 (by kernel_rfl)
        simp only [Nat.reduceAdd, h1] at hK ⊢
        go_simp
        exact hK.out _ _ rfl Ra.refl
      case o4 =>
        intro vs W_ hw hd K hK
        go_simp
        exact hK.out _ _ rfl Ra.refl
    case hfin =>
      intro vs W' hw hd
      have h2 := hd 2 (by decide)
      have h3 : vs 3 = .bool WH := hd 3 (by decide)
      have h4 : vs 4 = .int .i64 0 := hd 4 (by decide)
      obtain ⟨hk1, hk2, hk3⟩ := HEnd.out W' hw h2
      have HK1 := Lib.hid hk1
      have HK2 := Lib.hid hk2
      have HG := Lib.hid hk3
      simp only [Nat.reduceAdd, h3, h4]
      clear hd h2 h3 h4 hw HEnd HBe HWe HR0 hk1 hk2 hk3
      go_wp2
      refine ⟨by simp, .inl ⟨_, _, rfl, run_takeDeferred HK1.out, ?_⟩⟩
      exact ⟨_, results_cell_two16 (p := 4) (u := 5) (v := 6) rfl _ _ (w.heap.size + 2) _ _ _ _ rfl HK2.out Tryd.underlying31 rfl (by kernel_rfl), HG.out⟩
  case stop =>
    rintro D c pre W _ _ h _
    exact h.elim
end

end Go.Proofs.YtceneblmllpdnaaDoor
