/- Merged: FM16, GM16, RB16. -/
import Derived.Test.YtceneblmllpdnaaDoorQ21
import Derived.Test.YtceneblmllpdnaaDoorQ22
import Derived.Test.YtceneblmllpdnaaDoorQ20
import Derived.Test.YtceneblmllpdnaaDoorQ08
import Derived.Laws.Tables
import Derived.Laws.CopyOwn
namespace Go.Proofs.YtceneblmllpdnaaDoor

section
open Go.RowKit Go.PlainAid
theorem step_append_run16 {P : Program} {ops : Array Oper} {o : Oper} {a : Act} {w w' : World} {v : Value} {K : Act → World → Prop} {Q : Exit → Act → World → Prop} {E : Prop} (hgd : o.guard = none) (d s : Operand) (t1 t2 : TypeId)
    (ho : o.op = .call { callee := .builtin .append, args := #[d, s], argTypes := #[t1, t2] }) (u x : Value) (hd : a.eval d = u) (hs : a.eval s = x) (hrun : (Builtin.append_ #[t1, t2] o.type #[u, x]).run P w = .ok v w')
    (h : K (a.put o.dst v) w') : if Region.wanted o (yielded ops a.tmps) = true then Oper.wp P o a w K Q else E := by
  have hw : Region.wanted o (yielded ops a.tmps) = true := by simp [Region.wanted, hgd]
  rw [if_pos hw]
  unfold Oper.wp
  simp [execOp, ho, resolve, invoke, builtin, hd, hs, hrun, Result.andThen]
  exact h
theorem add_zero16 (g o j : Nat) : (⟨g, o, none⟩ : Addr).add j = ⟨g, o + j, none⟩ := by unfold Addr.add; split <;> simp_all
theorem encF_one (f : Fld) (u : Value) (h : u.oneCell' = true) : ∀ x ∈ encF f u, x.oneCell' = true := by
  intro x hx
  simp only [encF, List.mem_cons, List.not_mem_nil, or_false] at hx
  rcases hx with rfl | rfl | rfl | rfl
  · rfl
  · rfl
  · exact h
  · rfl
/-- append of one laid field to a row of fields of the call's own: its run. -/
theorem run_ft {B : Nat} {mv : Value} {M : List Fld} {f : Fld} {u : Value} {w : World} (h : FT B mv M w) (hu : SB B u f.subs w) (hB : B ≤ w.heap.size) (hz : M.length ≤ 100000) (ty : TypeId) (b : Nat) (hb : w.heap[b]? = some (.cells (encF f u).toArray 45 (0, 0))) :
    ∃ v' w', (Builtin.append_ #[29, 29] ty #[mv, .slice (some ⟨b, 0, none⟩) 1 1]).run Tryd.prog w = .ok v' w' ∧ FT B v' (M ++ [f]) w' ∧ w.grownBy w' mv.ownBlock := by
  obtain ⟨i0, hi, hz0, hz1, hz2⟩ := info_fld
  obtain ⟨xs, hrow, hpush⟩ := h.open
  obtain ⟨v', w', hr, hown, hg, -⟩ := run_append_own (P := Tryd.prog) w B 29 ty 45 i0 (.agg #[.string ⟨#[]⟩, .string ⟨#[]⟩, .slice none 0 0, .int .i64 0]) 4 64 Tryd.underlying29 hi hz0 hz1 hz2 rfl (by decide) mv M.length xs hrow ⟨b, 0, none⟩ 1 1 (encF f u) rfl
    (fun j x hx => by rw [add_zero16, Nat.zero_add, Lib.cell_of_heap hb]; simpa using hx) (encF_one f u hu.ql.one) (by unfold maxLen; omega) (by omega) hB
  exact ⟨v', w', hr, hpush f u v' w' hu hg hown, hg⟩
theorem FT.lt {B : Nat} {v : Value} {L : List Fld} {w : World} (h : FT B v L w) (b : Nat) (hb : v.ownBlock = some b) : B ≤ b ∧ ∃ cs, w.heap[b]? = some (.cells cs 45 (0, 0)) := by
  obtain ⟨us, _, h2, _⟩ := h
  rcases h2.2 with ⟨rfl, _⟩ | ⟨g, cap, cur, rfl, hB', hg, _⟩
  · cases hb
  · cases hb
    exact ⟨hB', _, hg⟩
/-- A block of another type is not the row's. -/
theorem FT.ne {B : Nat} {v : Value} {L : List Fld} {w : World} (h : FT B v L w) {b : Nat} {cs : Array Value} {t : TypeId} {fr : Nat × Nat} (hb : w.heap[b]? = some (.cells cs t fr)) (ht : t ≠ 45) : some b ≠ v.ownBlock := by
  intro e
  obtain ⟨-, cs', hc⟩ := h.lt b e.symm
  rw [hb] at hc
  injection Option.some.inj hc with e1 e2
  exact ht e2

structure Xm (B : Nat) (wq : World) (mv : Value) (M : List Fld) (f : Fld) (d : Nat → Bool) (vs : Nat → Value) (w : World) : Prop where
  low : Below B wq w
  size : wq.heap.size ≤ w.heap.size
  but : ∀ i, some i ≠ mv.ownBlock → i < wq.heap.size → w.heap[i]? = wq.heap[i]?
  same : d 5 = false → Below wq.heap.size wq w
  c3 : d 3 = true → d 5 = false → ∃ u', vs 3 = FV f u' ∧ SB B u' f.subs w
  c4 : d 4 = true → d 5 = false → ∃ u' b, vs 4 = .slice (some ⟨b, 0, none⟩) 1 1 ∧ SB B u' f.subs w ∧ w.heap[b]? = some (.cells (encF f u').toArray 45 (0, 0))
  c5 : d 5 = true → FT B (vs 5) (M ++ [f]) w
section
variable {B : Nat} {wq : World} {mv : Value} {M : List Fld} {f : Fld} {d : Nat → Bool} {vs : Nat → Value} {w : World}
theorem Xm.init (vs : Nat → Value) : Xm B wq mv M f (fun _ => false) vs wq.drew :=
  ⟨(Below.refl _ _).drew, Nat.le_refl _, fun _ _ _ => rfl, fun _ => (Below.refl _ _).drew, (fun h => by cases h), (fun h => by cases h), (fun h => by cases h)⟩
theorem Xm.below (h : Xm B wq mv M f d vs w) {w' : World} (hB : B ≤ wq.heap.size) (hb : Below w.heap.size w w') : Xm B wq mv M f d vs w' := by
  refine ⟨h.low.trans (hb.mono (Nat.le_trans hB h.size)), Nat.le_trans h.size hb.size, fun i hi hl => (hb.block i (Nat.lt_of_lt_of_le hl h.size)).trans (h.but i hi hl), fun a => (h.same a).trans (hb.mono h.size), fun a b => ?_, fun a b => ?_, fun a => (h.c5 a).after hb⟩
  · obtain ⟨u', h1, h2⟩ := h.c3 a b
    exact ⟨u', h1, h2.after hb⟩
  · obtain ⟨u', b', h1, h2, h3⟩ := h.c4 a b
    exact ⟨u', b', h1, h2.after hb, (hb.block b' (Array.getElem?_eq_some_iff.1 h3).1).trans h3⟩
theorem Xm.other (h : Xm B wq mv M f d vs w) (i : Nat) (v : Value) (hi : i ≠ 3 ∧ i ≠ 4 ∧ i ≠ 5) : Xm B wq mv M f (updB d i) (upd vs i v) w := by
  obtain ⟨n3, n4, n5⟩ := hi
  constructor <;> (try simp only [updB_ne _ _ _ (Ne.symm n3), updB_ne _ _ _ (Ne.symm n4), updB_ne _ _ _ (Ne.symm n5), upd_ne _ _ _ _ (Ne.symm n3), upd_ne _ _ _ _ (Ne.symm n4), upd_ne _ _ _ _ (Ne.symm n5)])
  · exact h.low
  · exact h.size
  · exact h.but
  · exact h.same
  · exact h.c3
  · exact h.c4
  · exact h.c5
/-- The copy. -/
theorem Xm.s3 (h : Xm B wq mv M f d vs w) (hB : B ≤ wq.heap.size) (h4 : d 4 = false) (h5 : d 5 = false) {u' : Value} {w' : World} (hs : SB B u' f.subs w') (hb : Below w.heap.size w w') : Xm B wq mv M f (updB d 3) (upd vs 3 (FV f u')) w' := by
  have g := h.below hB hb
  constructor <;> (try simp only [updB_at, upd_at, updB_ne _ _ _ (show 4 ≠ 3 by decide), updB_ne _ _ _ (show 5 ≠ 3 by decide), upd_ne _ _ _ _ (show 4 ≠ 3 by decide), upd_ne _ _ _ _ (show 5 ≠ 3 by decide)])
  · exact g.low
  · exact g.size
  · exact g.but
  · exact g.same
  · exact fun _ _ => ⟨u', rfl, hs⟩
  · intro a; rw [h4] at a; cases a
  · intro a; rw [h5] at a; cases a
/-- The field that is laid. -/
theorem Xm.s4 (h : Xm B wq mv M f d vs w) (hB : B ≤ wq.heap.size) (h5 : d 5 = false) {u' : Value} (hs : SB B u' f.subs w) : Xm B wq mv M f (updB d 4) (upd vs 4 (.slice (some ⟨w.heap.size, 0, none⟩) 1 1)) (w.alloc (.cells #[.string (S f.tag), .string (S f.ind), u', .int .i64 f.auth] 45)) := by
  have hb := (Below.refl w.heap.size w).alloc (Nat.le_refl _) (.cells #[.string (S f.tag), .string (S f.ind), u', .int .i64 f.auth] 45)
  have g := h.below hB hb
  constructor <;> (try simp only [updB_at, upd_at, updB_ne _ _ _ (show 3 ≠ 4 by decide), updB_ne _ _ _ (show 5 ≠ 4 by decide), upd_ne _ _ _ _ (show 3 ≠ 4 by decide), upd_ne _ _ _ _ (show 5 ≠ 4 by decide)])
  · exact g.low
  · exact g.size
  · exact g.but
  · exact g.same
  · exact g.c3
  · exact fun _ _ => ⟨u', w.heap.size, rfl, hs.after hb, heap_alloc_new w _⟩
  · intro a; rw [h5] at a; cases a
/-- The append. -/
theorem Xm.s5 (h : Xm B wq mv M f d vs w) (hFT : FT B mv M wq) (hB : B ≤ wq.heap.size) (hz : M.length ≤ 100000) (h4 : d 4 = true) (h5 : d 5 = false) (ty : TypeId) :
    ∃ b v' w', vs 4 = .slice (some ⟨b, 0, none⟩) 1 1 ∧ (Builtin.append_ #[29, 29] ty #[mv, .slice (some ⟨b, 0, none⟩) 1 1]).run Tryd.prog w = .ok v' w' ∧ Xm B wq mv M f (updB d 5) (upd vs 5 v') w' := by
  obtain ⟨u', b, e4, hs, hb⟩ := h.c4 h4 h5
  have hF := hFT.after (h.same h5)
  obtain ⟨v', w', hr, hft, hg⟩ := run_ft hF hs (Nat.le_trans hB h.size) hz ty b hb
  refine ⟨b, v', w', e4, hr, ?_⟩
  constructor <;> (try simp only [updB_at, upd_at, updB_ne _ _ _ (show 3 ≠ 5 by decide), updB_ne _ _ _ (show 4 ≠ 5 by decide), upd_ne _ _ _ _ (show 3 ≠ 5 by decide), upd_ne _ _ _ _ (show 4 ≠ 5 by decide)])
  · exact h.low.grown hg (Nat.le_trans hB h.size) (fun j hj => (hF.lt j hj).1)
  · exact Nat.le_trans h.size hg.size
  · exact fun i hi hl => (hg.block i (Nat.lt_of_lt_of_le hl h.size) hi).trans (h.but i hi hl)
  · intro a; cases a
  · intro _ a; cases a
  · intro _ a; cases a
  · exact fun _ => hft
end
end

section
open Go.RowKit Go.PlainAid
theorem results_three16 {P : Program} {fn : Func} {p q u : Tmp} {tp tq : TypeId} (h : fn.results = #[.cell p tp, .cell q tq, .tmp u]) (tmps : Array Value) (w : World) (g k : Nat) (tg tk : TypeId) (cs ds : Array Value) (fr fs : Nat × Nat) (d d' : TypeDesc)
    (hp : tmps.getD p undef = .pointer (some ⟨g, 0, none⟩)) (hq : tmps.getD q undef = .pointer (some ⟨k, 0, none⟩)) (hg : w.heap[g]? = some (.cells cs tg fr)) (hk : w.heap[k]? = some (.cells ds tk fs))
    (hu : P.underlying tp = some d) (hd : (match d with | .struct _ | .array _ _ => true | _ => false) = true) (hi : (P.info? tp).map (·.size) = some cs.size)
    (hu' : P.underlying tq = some d') (hd' : (match d' with | .struct _ | .array _ _ => true | _ => false) = true) (hi' : (P.info? tq).map (·.size) = some ds.size) :
    (results fn tmps).run P w = .ok (.tuple #[.agg cs, .agg ds, tmps.getD u undef]) w := by
  have e1 : (results fn tmps).run P w = ((asAddr (tmps.getD p undef)).run P w).andThen fun a w1 => ((loadVar tp a).run P w1).andThen fun v w2 => ((asAddr (tmps.getD q undef)).run P w2).andThen fun a' w3 => ((loadVar tq a').run P w3).andThen fun v' w4 => .ok (.tuple #[v, v', tmps.getD u undef]) w4 := by
    simp only [results, h]
    simp [Sem.run_bind, Result.andThen]
  rw [e1, hp, hq]
  simp [asAddr, run_loadVar_row w g tg tp cs fr d hg hu hd hi, run_loadVar_row w k tk tq ds fs d' hk hu' hd' hi', Result.andThen]

/-- A parting. -/
structure Prt where
  into : Int
  frm : Rec
  taken : List Int
def prt0 : Prt := ⟨0, rec0, []⟩
def intV16 (x : Int) : Value := .int .i64 x
/-- A slice of integers. -/
def TL (v : Value) (L : List Int) (w : World) : Prop :=
  ∃ a cap, v = .slice a L.length cap ∧ L.length ≤ cap ∧ cap ≤ maxLen ∧ (a = none → cap = 0) ∧ ∀ i, i < L.length → ∃ g o, a = some ⟨g, o, none⟩ ∧ g < w.heap.size ∧ w.cell? ⟨g, o + i, none⟩ = some (.int .i64 (L.getD i 0))
theorem TL.after {v : Value} {L : List Int} {w w' : World} (h : TL v L w) (hb : Below w.heap.size w w') : TL v L w' := by
  obtain ⟨a, cap, rfl, hc, hm, hn, hx⟩ := h
  refine ⟨a, cap, rfl, hc, hm, hn, fun i hi => ?_⟩
  obtain ⟨g, o, rfl, hg, h0⟩ := hx i hi
  exact ⟨g, o, rfl, Nat.lt_of_lt_of_le hg hb.size, (hb.cell (p := ⟨g, o + i, none⟩) hg).trans h0⟩
theorem TL.opened {v : Value} {A : List Int} {w : World} (h : TL v A w) : ∃ a cap g o, v = .slice a A.length cap ∧ A.length ≤ cap ∧ cap ≤ maxLen ∧ (0 < A.length → a = some ⟨g, o, none⟩ ∧ g < w.heap.size) ∧ ∀ W, Below w.heap.size w W → ∀ i, i < A.length → W.cell? ⟨g, o + i, none⟩ = some (.int .i64 (A.getD i 0)) := by
  obtain ⟨a, cap, rfl, hc, hm, hn, hx⟩ := h
  by_cases h0 : 0 < A.length
  · obtain ⟨g, o, rfl, hg, -⟩ := hx 0 h0
    refine ⟨_, cap, g, o, rfl, hc, hm, fun _ => ⟨rfl, hg⟩, fun W hb i hi => ?_⟩
    obtain ⟨g', o', e, hg', h1⟩ := hx i hi
    obtain ⟨rfl, rfl, -⟩ := Addr.mk.inj (Option.some.inj e)
    exact (hb.cell (p := ⟨_, _, none⟩) hg').trans h1
  · exact ⟨a, cap, 0, 0, rfl, hc, hm, fun h => absurd h h0, fun W hb i hi => by omega⟩
/-- A row of integers of the call's own, nil at first. -/
def TR (B : Nat) (v : Value) (L : List Int) (w : World) : Prop := w.ownsRow B 3 1 v L.length (L.map intV16)
theorem TR.nil (B : Nat) (w : World) : TR B (.slice none 0 0) [] w := World.ownsRow_nil _ _ _ _
theorem TR.after {B : Nat} {v : Value} {L : List Int} {w w' : World} (h : TR B v L w) (hb : Below w.heap.size w w') : TR B v L w' := own_after14 h hb
theorem TR.form {B : Nat} {v : Value} {L : List Int} {w : World} (h : TR B v L w) : ∃ ao cp, v = .slice ao L.length cp := own_form h
theorem TR.tl {B : Nat} {v : Value} {L : List Int} {w : World} (h : TR B v L w) : TL v L w := by
  have hown := h
  rcases h.2 with ⟨rfl, h0⟩ | ⟨g, cap, cur, rfl, hb, hg, hc, hm, hs, ht⟩
  · have : L = [] := List.eq_nil_of_length_eq_zero h0
    subst this
    exact ⟨none, 0, rfl, Nat.le_refl _, Nat.zero_le _, fun _ => rfl, fun i hi => by cases hi⟩
  · refine ⟨_, cap, rfl, hc, hm, (fun h => by cases h), fun i hi => ?_⟩
    have hat : (L.map intV16)[i]? = some (.int .i64 (L.getD i 0)) := by
      rw [List.getElem?_map, List.getElem?_eq_getElem hi, List.getD_eq_getElem?_getD, List.getElem?_eq_getElem hi]
      rfl
    have t0 := hown.cells (g := g) rfl _ _ hat
    rw [add_zero16] at t0
    exact ⟨g, 0, rfl, (Array.getElem?_eq_some_iff.1 hg).1, t0⟩
theorem TR.keptT {B : Nat} {v : Value} {L : List Int} {w W : World} (h : TR B v L w) (hk : ∀ b cs, B ≤ b → w.heap[b]? = some (.cells cs 3 (0, 0)) → W.heap[b]? = w.heap[b]?) : TR B v L W := own_kept h hk
theorem info_int16 : ∃ i0, Tryd.prog.info? 3 = some i0 ∧ i0.zero = some (.int .i64 0) ∧ i0.size = 1 ∧ i0.bytes = 8 := by
  have e : (Tryd.prog.info? 3).map (fun i => (i.zero, i.size, i.bytes)) = some (some (.int .i64 0), 1, 8) := by kernel_rfl
  obtain ⟨i0, h0, h2⟩ := Option.map_eq_some_iff.1 e
  simp only [Prod.mk.injEq] at h2
  exact ⟨i0, h0, h2.1, h2.2.1, h2.2.2⟩
theorem cells_one16 (w : World) (a : Value) (t : TypeId) : ∀ j u, [a][j]? = some u → (w.alloc (.cells #[a] t)).cell? ((⟨w.heap.size, 0, none⟩ : Addr).add j) = some u := by
  intro j u hj
  match j, hj with
  | 0, hj => simp at hj; subst hj; simp [Addr.add]
  | (j + 1), hj => simp at hj
/-- append of one integer that has just been laid to such a row. -/
theorem append_tr {ops : Array Oper} {rest : List Oper} {o : Oper} {a : Act} {Q : Exit → Act → World → Prop} (w : World) (hgd : o.guard = none) (s x : Operand)
    (ho : o.op = .call { callee := .builtin .append, args := #[s, x], argTypes := #[34, 34] })
    (B : Nat) (v : Value) (L : List Int) (y : Int) (hs : a.eval s = v) (hr : TR B v L w) (hx : a.eval x = .slice (some ⟨w.heap.size, 0, none⟩) 1 1) (hz : L.length ≤ 10000000) (hB : B ≤ w.heap.size)
    (hk : ∀ v' w', TR B v' (L ++ [y]) w' → (w.alloc (.cells #[.int .i64 y] 3)).grownBy w' v.ownBlock → wpList Tryd.prog ops Q rest (a.put o.dst v') w') : wpList Tryd.prog ops Q (o :: rest) a (w.alloc (.cells #[.int .i64 y] 3)) := by
  obtain ⟨i0, hi, hz0, hz1, hz2⟩ := info_int16
  have hrow := World.ownsRow.alloc hr (.cells #[.int .i64 y] 3)
  refine wpList_append_own _ hgd s x 34 ho B 3 i0 (.int .i64 0) 1 8 Tryd.underlying34 hi hz0 hz1 hz2 rfl (by decide) v L.length _ hs hrow ⟨w.heap.size, 0, none⟩ 1 1 [.int .i64 y] hx rfl (cells_one16 _ _ _) (by intro u hu; simp at hu; subst hu; rfl) (by unfold maxLen; omega) (by omega) (by simp; omega) ?_
  intro v2 w2 hown2 hg2 hn2
  exact hk v2 w2 (by unfold TR; rw [List.length_append, List.map_append]; exact hown2) hg2
theorem TR.blk {B : Nat} {v : Value} {L : List Int} {w : World} (h : TR B v L w) (b : Nat) (hb : v.ownBlock = some b) : B ≤ b ∧ b < w.heap.size ∧ ∃ cs, w.heap[b]? = some (.cells cs 3 (0, 0)) := by
  rcases h.2 with ⟨rfl, _⟩ | ⟨g, cap, cur, rfl, hB', hg, _⟩
  · cases hb
  · cases hb
    exact ⟨hB', (Array.getElem?_eq_some_iff.1 hg).1, _, hg⟩

/-- A parting as it lies. -/
def PgV (p : Prt) (fv tv : Value) : Value := .agg #[.int .i64 p.into, .int .i64 p.frm.id, .int .i64 p.frm.ver, .int .i64 p.frm.kind, .string (S p.frm.lang), fv, tv]
def mrgR (a b : Rec) (l : List Kp) : Rec := if errM a b l = 0 then { a with fields := (mergeF a.fields b.fields l).1 } else rec0
def mrgP (a b : Rec) (l : List Kp) : Prt := if errM a b l = 0 then ⟨a.id, b, (mergeF a.fields b.fields l).2.map fun k : Nat => (k : Int)⟩ else prt0
/-- What Merge answers. -/
def MrgQ (a b : Rec) (l : List Kp) (w : World) (e : Ending) (w' : World) : Prop :=
  ∃ mv fv tv, e = .returned (.tuple #[RV (mrgR a b l) mv, PgV (mrgP a b l) fv tv, .int .i64 (errM a b l)]) ∧ New w.heap.size (fun W => FL mv (mrgR a b l).fields W ∧ FL fv (mrgP a b l).frm.fields W ∧ TL tv (mrgP a b l).taken W) w' ∧ Below w.heap.size w w'
theorem FL.nil16 (w : World) : FL (.slice none 0 0) [] w := ⟨none, 0, rfl, Nat.le_refl _, Nat.zero_le _, fun _ => rfl, fun i hi => by cases hi⟩
theorem TL.nil16 (w : World) : TL (.slice none 0 0) [] w := ⟨none, 0, rfl, Nat.le_refl _, Nat.zero_le _, fun _ => rfl, fun i hi => by cases hi⟩
theorem MrgQ.err {a b : Rec} {l : List Kp} {w w' : World} (e : Int) (h : errM a b l = e) (h0 : e ≠ 0) (hb : Below w.heap.size w w') :
    MrgQ a b l w (.returned (.tuple #[.agg #[.int .i64 0, .int .i64 0, .int .i64 0, .string ⟨#[]⟩, .slice none 0 0], .agg #[.int .i64 0, .int .i64 0, .int .i64 0, .int .i64 0, .string ⟨#[]⟩, .slice none 0 0, .slice none 0 0], .int .i64 e])) w' := by
  have h1 : ¬ errM a b l = 0 := by rw [h]; exact h0
  have e1 : mrgR a b l = rec0 := by unfold mrgR; rw [if_neg h1]
  have e2 : mrgP a b l = prt0 := by unfold mrgP; rw [if_neg h1]
  refine ⟨.slice none 0 0, .slice none 0 0, .slice none 0 0, ?_, ?_, hb⟩
  · rw [e1, e2, h]; rfl
  · rw [e1, e2]
    exact fun W _ _ => ⟨FL.nil16 W, FL.nil16 W, TL.nil16 W⟩

theorem pcells16 {w : World} {b : Nat} {c0 c1 c2 c3 c4 c5 c6 : Value} (h : w.heap[b]? = some (.cells #[c0, c1, c2, c3, c4, c5, c6] 36 (0, 0))) :
    (w.cell? ⟨b, 0, none⟩ = some c0 ∧ w.cell? ⟨b, 1, none⟩ = some c1 ∧ w.cell? ⟨b, 2, none⟩ = some c2 ∧ w.cell? ⟨b, 3, none⟩ = some c3 ∧ w.cell? ⟨b, 4, none⟩ = some c4 ∧ w.cell? ⟨b, 5, none⟩ = some c5 ∧ w.cell? ⟨b, 6, none⟩ = some c6) ∧
    (w.frozen? ⟨b, 0, none⟩ = false ∧ w.frozen? ⟨b, 1, none⟩ = false ∧ w.frozen? ⟨b, 2, none⟩ = false ∧ w.frozen? ⟨b, 3, none⟩ = false ∧ w.frozen? ⟨b, 4, none⟩ = false ∧ w.frozen? ⟨b, 5, none⟩ = false ∧ w.frozen? ⟨b, 6, none⟩ = false) := by
  refine ⟨⟨?_, ?_, ?_, ?_, ?_, ?_, ?_⟩, Lib.frozen_of_heap h 0, Lib.frozen_of_heap h 1, Lib.frozen_of_heap h 2, Lib.frozen_of_heap h 3, Lib.frozen_of_heap h 4, Lib.frozen_of_heap h 5, Lib.frozen_of_heap h 6⟩ <;> (rw [Lib.cell_of_heap h]; rfl)
def setP7 (w : World) (b : Nat) (x0 x1 x2 x3 x4 x5 x6 : Value) : World := ((((((w.setCell ⟨b, 0, none⟩ x0).setCell ⟨b, 1, none⟩ x1).setCell ⟨b, 2, none⟩ x2).setCell ⟨b, 3, none⟩ x3).setCell ⟨b, 4, none⟩ x4).setCell ⟨b, 5, none⟩ x5).setCell ⟨b, 6, none⟩ x6
theorem setP7_at {w : World} {b : Nat} {c0 c1 c2 c3 c4 c5 c6 x0 x1 x2 x3 x4 x5 x6 : Value} (h : w.heap[b]? = some (.cells #[c0, c1, c2, c3, c4, c5, c6] 36 (0, 0))) :
    (setP7 w b x0 x1 x2 x3 x4 x5 x6).heap[b]? = some (.cells #[x0, x1, x2, x3, x4, x5, x6] 36 (0, 0)) := by
  simp [setP7, World.setCell, Array.getElem?_modify, h]
theorem setP7_other {w : World} {b : Nat} (x0 x1 x2 x3 x4 x5 x6 : Value) (i : Nat) (h : i ≠ b) : (setP7 w b x0 x1 x2 x3 x4 x5 x6).heap[i]? = w.heap[i]? := by
  unfold setP7
  rw [heap_setn _ _ _ _ h, heap_setn _ _ _ _ h, heap_setn _ _ _ _ h, heap_setn _ _ _ _ h, heap_setn _ _ _ _ h, heap_setn _ _ _ _ h, heap_setn _ _ _ _ h]
theorem setP7_size (w : World) (b : Nat) (x0 x1 x2 x3 x4 x5 x6 : Value) : (setP7 w b x0 x1 x2 x3 x4 x5 x6).heap.size = w.heap.size := by simp [setP7, World.setCell]
theorem setP7_below {w W : World} {B b : Nat} (h : Below B w W) (hb : B ≤ b) (x0 x1 x2 x3 x4 x5 x6 : Value) : Below B w (setP7 W b x0 x1 x2 x3 x4 x5 x6) :=
  ((((((h.setCell (p := ⟨b, 0, none⟩) hb x0).setCell (p := ⟨b, 1, none⟩) hb x1).setCell (p := ⟨b, 2, none⟩) hb x2).setCell (p := ⟨b, 3, none⟩) hb x3).setCell (p := ⟨b, 4, none⟩) hb x4).setCell (p := ⟨b, 5, none⟩) hb x5).setCell (p := ⟨b, 6, none⟩) hb x6
theorem setR16_below {w W : World} {B b : Nat} (h : Below B w W) (hb : B ≤ b) (x0 x1 x2 x3 x4 : Value) : Below B w (setR5 W b x0 x1 x2 x3 x4) :=
  ((((h.setCell (p := ⟨b, 0, none⟩) hb x0).setCell (p := ⟨b, 1, none⟩) hb x1).setCell (p := ⟨b, 2, none⟩) hb x2).setCell (p := ⟨b, 3, none⟩) hb x3).setCell (p := ⟨b, 4, none⟩) hb x4

/-- The two records that came in, and the places of the results. -/
structure M4 (w : World) (a : Rec) (u : Value) (b : Rec) (v : Value) (wr : World) : Prop where
  x : wr.heap[w.heap.size]? = some (.cells #[.int .i64 a.id, .int .i64 a.ver, .int .i64 a.kind, .string (S a.lang), u] 31 (0, 0))
  y : wr.heap[w.heap.size + 1]? = some (.cells #[.int .i64 b.id, .int .i64 b.ver, .int .i64 b.kind, .string (S b.lang), v] 31 (0, 0))
  r : wr.heap[w.heap.size + 2]? = some (.cells #[.int .i64 0, .int .i64 0, .int .i64 0, .string ⟨#[]⟩, .slice none 0 0] 31 (0, 0))
  p : wr.heap[w.heap.size + 3]? = some (.cells #[.int .i64 0, .int .i64 0, .int .i64 0, .int .i64 0, .string ⟨#[]⟩, .slice none 0 0, .slice none 0 0] 36 (0, 0))
  size : w.heap.size + 4 ≤ wr.heap.size
  bel : Below w.heap.size w wr
def M4W (w : World) (a : Rec) (u : Value) (b : Rec) (v : Value) : World :=
  (((w.alloc (.cells #[.int .i64 a.id, .int .i64 a.ver, .int .i64 a.kind, .string (S a.lang), u] 31)).alloc (.cells #[.int .i64 b.id, .int .i64 b.ver, .int .i64 b.kind, .string (S b.lang), v] 31)).alloc (.cells #[.int .i64 0, .int .i64 0, .int .i64 0, .string ⟨#[]⟩, .slice none 0 0] 31)).alloc (.cells #[.int .i64 0, .int .i64 0, .int .i64 0, .int .i64 0, .string ⟨#[]⟩, .slice none 0 0, .slice none 0 0] 36)
theorem M4.first (w : World) (a : Rec) (u : Value) (b : Rec) (v : Value) : M4 w a u b v (M4W w a u b v) := by
  unfold M4W
  refine ⟨?_, ?_, ?_, ?_, by simp, ((((Below.refl w.heap.size w).alloc (Nat.le_refl _) _).alloc (by simp) _).alloc (by simp <;> omega) _).alloc (by simp <;> omega) _⟩
  · exact (Below.heap_alloc _ _ _ (by simp <;> omega)).trans ((Below.heap_alloc _ _ _ (by simp <;> omega)).trans ((Below.heap_alloc _ _ _ (by simp)).trans (heap_alloc_new w _)))
  · refine (Below.heap_alloc _ _ _ (by simp <;> omega)).trans ((Below.heap_alloc _ _ _ (by simp)).trans ?_)
    have := heap_alloc_new (w.alloc (.cells #[.int .i64 a.id, .int .i64 a.ver, .int .i64 a.kind, .string (S a.lang), u] 31)) (.cells #[.int .i64 b.id, .int .i64 b.ver, .int .i64 b.kind, .string (S b.lang), v] 31)
    simpa using this
  · refine (Below.heap_alloc _ _ _ (by simp)).trans ?_
    have := heap_alloc_new ((w.alloc (.cells #[.int .i64 a.id, .int .i64 a.ver, .int .i64 a.kind, .string (S a.lang), u] 31)).alloc (.cells #[.int .i64 b.id, .int .i64 b.ver, .int .i64 b.kind, .string (S b.lang), v] 31)) (.cells #[.int .i64 0, .int .i64 0, .int .i64 0, .string ⟨#[]⟩, .slice none 0 0] 31)
    simpa using this
  · have := heap_alloc_new (((w.alloc (.cells #[.int .i64 a.id, .int .i64 a.ver, .int .i64 a.kind, .string (S a.lang), u] 31)).alloc (.cells #[.int .i64 b.id, .int .i64 b.ver, .int .i64 b.kind, .string (S b.lang), v] 31)).alloc (.cells #[.int .i64 0, .int .i64 0, .int .i64 0, .string ⟨#[]⟩, .slice none 0 0] 31)) (.cells #[.int .i64 0, .int .i64 0, .int .i64 0, .int .i64 0, .string ⟨#[]⟩, .slice none 0 0, .slice none 0 0] 36)
    simpa using this
section
variable {w wr w3 : World} {a b : Rec} {u v : Value}
theorem M4.moved (h : M4 w a u b v wr) (hb : Below (w.heap.size + 4) wr w3) : M4 w a u b v w3 :=
  have hs := h.size
  ⟨(hb.block _ (by omega)).trans h.x, (hb.block _ (by omega)).trans h.y, (hb.block _ (by omega)).trans h.r, (hb.block _ (by omega)).trans h.p, Nat.le_trans hs hb.size, h.bel.trans (hb.mono (by omega))⟩
theorem M4.after (h : M4 w a u b v wr) (hb : Below wr.heap.size wr w3) : M4 w a u b v w3 := h.moved (hb.mono h.size)
/-- The results' places filled. -/
theorem M4.fin (h : M4 w a u b v wr) (x0 x1 x2 x3 x4 y0 y1 y2 y3 y4 y5 y6 : Value) :
    (setP7 (setR5 wr (w.heap.size + 2) x0 x1 x2 x3 x4) (w.heap.size + 3) y0 y1 y2 y3 y4 y5 y6).heap[w.heap.size + 2]? = some (.cells #[x0, x1, x2, x3, x4] 31 (0, 0)) ∧
    (setP7 (setR5 wr (w.heap.size + 2) x0 x1 x2 x3 x4) (w.heap.size + 3) y0 y1 y2 y3 y4 y5 y6).heap[w.heap.size + 3]? = some (.cells #[y0, y1, y2, y3, y4, y5, y6] 36 (0, 0)) ∧
    Below w.heap.size w (setP7 (setR5 wr (w.heap.size + 2) x0 x1 x2 x3 x4) (w.heap.size + 3) y0 y1 y2 y3 y4 y5 y6) ∧
    (∀ i, w.heap.size + 4 ≤ i → (setP7 (setR5 wr (w.heap.size + 2) x0 x1 x2 x3 x4) (w.heap.size + 3) y0 y1 y2 y3 y4 y5 y6).heap[i]? = wr.heap[i]?) ∧
    (setP7 (setR5 wr (w.heap.size + 2) x0 x1 x2 x3 x4) (w.heap.size + 3) y0 y1 y2 y3 y4 y5 y6).heap.size = wr.heap.size := by
  refine ⟨?_, ?_, ?_, fun i hi => ?_, ?_⟩
  · rw [setP7_other _ _ _ _ _ _ _ _ (by omega)]
    exact rec_set5 h.r
  · exact setP7_at ((rec_other _ (by omega)).trans h.p)
  · exact setP7_below (setR16_below h.bel (by omega) _ _ _ _ _) (by omega) _ _ _ _ _ _ _
  · rw [setP7_other _ _ _ _ _ _ _ _ (by omega)]
    exact rec_other _ (by omega)
  · rw [setP7_size, rec_size]
/-- The results' places filled, row by row. -/
theorem M4.finW (h : M4 w a u b v wr) (xs ys : Array Value) :
    ((wr.setRow (w.heap.size + 2) xs).setRow (w.heap.size + 3) ys).heap[w.heap.size + 2]? = some (.cells xs 31 (0, 0)) ∧
    ((wr.setRow (w.heap.size + 2) xs).setRow (w.heap.size + 3) ys).heap[w.heap.size + 3]? = some (.cells ys 36 (0, 0)) ∧
    Below w.heap.size w ((wr.setRow (w.heap.size + 2) xs).setRow (w.heap.size + 3) ys) ∧
    (∀ i, w.heap.size + 4 ≤ i → ((wr.setRow (w.heap.size + 2) xs).setRow (w.heap.size + 3) ys).heap[i]? = wr.heap[i]?) ∧
    ((wr.setRow (w.heap.size + 2) xs).setRow (w.heap.size + 3) ys).heap.size = wr.heap.size ∧
    (wr.setRow (w.heap.size + 2) xs).heap[w.heap.size + 3]? = some (.cells #[.int .i64 0, .int .i64 0, .int .i64 0, .int .i64 0, .string ⟨#[]⟩, .slice none 0 0, .slice none 0 0] 36 (0, 0)) := by
  have hm : (wr.setRow (w.heap.size + 2) xs).heap[w.heap.size + 3]? = some (.cells #[.int .i64 0, .int .i64 0, .int .i64 0, .int .i64 0, .string ⟨#[]⟩, .slice none 0 0, .slice none 0 0] 36 (0, 0)) := (setRow_other _ _ _ _ (by omega)).trans h.p
  refine ⟨?_, setRow_heap _ _ _ _ _ _ hm, below_setRow (below_setRow h.bel (by omega) _) (by omega) _, fun i hi => ?_, ?_, hm⟩
  · rw [setRow_other _ _ _ _ (by omega)]
    exact setRow_heap _ _ _ _ _ _ h.r
  · rw [setRow_other _ _ _ _ (by omega), setRow_other _ _ _ _ (by omega)]
  · rw [size_setRow, size_setRow]
end
end

section
open Go.RowKit Go.PlainAid
def PrX (r : Nat) (X : Obj) (W : World) : Prop := W.heap[r]? = some X
def PpX (p N : Nat) (Y : Value → Obj) (L : List Fld) (W : World) : Prop := ∃ fv, W.heap[p]? = some (Y fv) ∧ FT N fv L W
structure Ra (n0 r p N : Nat) (X : Obj) (Y : Value → Obj) (L : List Fld) (u v : World) : Prop where
  low : Below n0 u v
  but : ∀ i, i ≠ r → i ≠ p → i < u.heap.size → v.heap[i]? = u.heap[i]?
  shr : ∀ cs t, u.heap[r]? = some (.cells cs t (0, 0)) → ∃ cs', v.heap[r]? = some (.cells cs' t (0, 0)) ∧ cs'.size = cs.size
  shp : ∀ cs t, u.heap[p]? = some (.cells cs t (0, 0)) → ∃ cs', v.heap[p]? = some (.cells cs' t (0, 0)) ∧ cs'.size = cs.size
  pr : PrX r X u → PrX r X v
  pp : PpX p N Y L u → PpX p N Y L v
section
variable {n0 r p N : Nat} {X : Obj} {Y : Value → Obj} {L : List Fld}
theorem Ra.trans {u v w : World} (h : Ra n0 r p N X Y L u v) (k : Ra n0 r p N X Y L v w) : Ra n0 r p N X Y L u w :=
  ⟨h.low.trans k.low, fun i h1 h2 hl => (k.but i h1 h2 (Nat.lt_of_lt_of_le hl h.low.size)).trans (h.but i h1 h2 hl),
    fun cs t hc => by
      obtain ⟨cs1, h1, h2⟩ := h.shr cs t hc
      obtain ⟨cs2, h3, h4⟩ := k.shr cs1 t h1
      exact ⟨cs2, h3, h4.trans h2⟩,
    fun cs t hc => by
      obtain ⟨cs1, h1, h2⟩ := h.shp cs t hc
      obtain ⟨cs2, h3, h4⟩ := k.shp cs1 t h1
      exact ⟨cs2, h3, h4.trans h2⟩,
    fun a => k.pr (h.pr a), fun a => k.pp (h.pp a)⟩
theorem Ra.below {u v : World} (hn : n0 ≤ u.heap.size) (h : Below u.heap.size u v) : Ra n0 r p N X Y L u v :=
  ⟨h.mono hn, fun i _ _ hl => h.block i hl, fun cs _ hc => ⟨cs, (h.block r (Array.getElem?_eq_some_iff.1 hc).1).trans hc, rfl⟩, fun cs _ hc => ⟨cs, (h.block p (Array.getElem?_eq_some_iff.1 hc).1).trans hc, rfl⟩,
    fun a => (h.block r (Array.getElem?_eq_some_iff.1 a).1).trans a, fun ⟨fv, h1, h2⟩ => ⟨fv, (h.block p (Array.getElem?_eq_some_iff.1 h1).1).trans h1, h2.after h⟩⟩
theorem Ra.refl {u : World} : Ra n0 r p N X Y L u u := ⟨Below.refl _ _, fun _ _ _ _ => rfl, fun cs _ hc => ⟨cs, hc, rfl⟩, fun cs _ hc => ⟨cs, hc, rfl⟩, id, id⟩
theorem arr5 {cs : Array Value} (h : cs.size = 5) : ∃ a b c d e, cs = #[a, b, c, d, e] := by
  obtain ⟨l⟩ := cs
  match l, h with
  | [a, b, c, d, e], _ => exact ⟨a, b, c, d, e, rfl⟩
theorem arr7 {cs : Array Value} (h : cs.size = 7) : ∃ a b c d e f g, cs = #[a, b, c, d, e, f, g] := by
  obtain ⟨l⟩ := cs
  match l, h with
  | [a, b, c, d, e, f, g], _ => exact ⟨a, b, c, d, e, f, g, rfl⟩
/-- The first place is filled with what is to stand there. -/
theorem Ra.rowR {u : World} {cs xs : Array Value} {t : TypeId} (hc : u.heap[r]? = some (.cells cs t (0, 0))) (hX : X = .cells xs t (0, 0)) (hz : xs.size = cs.size) (hn : n0 ≤ r) (hne : p ≠ r) (hN : r < N) :
    Ra n0 r p N X Y L u (u.setRow r xs) ∧ PrX r X (u.setRow r xs) := by
  have hat : (u.setRow r xs).heap[r]? = some X := by rw [hX]; exact setRow_heap _ _ _ _ _ _ hc
  refine ⟨⟨below_setRow (Below.refl _ _) hn _, fun i h1 _ _ => setRow_other _ _ _ _ h1, fun cs2 t2 h => ?_, fun cs t h => ⟨cs, (setRow_other _ _ _ _ hne).trans h, rfl⟩, fun _ => hat, fun ⟨fv, h1, h2⟩ => ⟨fv, (setRow_other _ _ _ _ hne).trans h1, h2.kept (KpF.of (Nat.le_of_eq (size_setRow _ _ _).symm) fun i hi _ => setRow_other _ _ _ _ (by omega))⟩⟩, hat⟩
  rw [hc] at h
  injection Option.some.inj h with h1 h2
  subst h1 h2
  exact ⟨_, setRow_heap _ _ _ _ _ _ hc, hz⟩
/-- The second place is filled. -/
theorem Ra.rowP {u : World} {cs xs : Array Value} {t : TypeId} {fv : Value} (hc : u.heap[p]? = some (.cells cs t (0, 0))) (hY : Y fv = .cells xs t (0, 0)) (hz : xs.size = cs.size) (hF : FT N fv L u) (hn : n0 ≤ p) (hne : r ≠ p) (hN : p < N) :
    Ra n0 r p N X Y L u (u.setRow p xs) ∧ PpX p N Y L (u.setRow p xs) := by
  have hp : PpX p N Y L (u.setRow p xs) := ⟨fv, by rw [hY]; exact setRow_heap _ _ _ _ _ _ hc, hF.kept (KpF.of (Nat.le_of_eq (size_setRow _ _ _).symm) fun i hi _ => setRow_other _ _ _ _ (by omega))⟩
  refine ⟨⟨below_setRow (Below.refl _ _) hn _, fun i _ h1 _ => setRow_other _ _ _ _ h1, fun cs t h => ⟨cs, (setRow_other _ _ _ _ hne).trans h, rfl⟩, fun cs2 t2 h => ?_, fun a => (setRow_other _ _ _ _ hne).trans a, fun _ => hp⟩, hp⟩
  rw [hc] at h
  injection Option.some.inj h with h1 h2
  subst h1 h2
  exact ⟨_, setRow_heap _ _ _ _ _ _ hc, hz⟩
end
/-- A row is stored. -/
theorem step_store_row16 {P : Program} {ops : Array Oper} {o : Oper} {a : Act} {w : World} {K : Act → World → Prop} {Q : Exit → Act → World → Prop} {E : Prop} (hgd : o.guard = none) (ty : TypeId) (x y : Operand) (ho : o.op = .store ty x y)
    (g : Nat) (cells : Array Value) (hx : a.eval x = .pointer (some ⟨g, 0, none⟩)) (hy : a.eval y = .agg cells)
    (t : TypeId) (old : Array Value) (hg : w.heap[g]? = some (.cells old t (0, 0))) (hi : (P.info? ty).map (·.size) = some cells.size)
    (hold : old.size = cells.size) (h1 : cells.all (·.oneCell') = true)
    (h : K (a.put o.dst undef) (w.setRow g cells)) : if Region.wanted o (yielded ops a.tmps) = true then Oper.wp P o a w K Q else E := by
  have hw : Region.wanted o (yielded ops a.tmps) = true := by simp [Region.wanted, hgd]
  rw [if_pos hw]
  exact wp_store_row ty x y ho g cells hx hy t old hg hi hold h1 h
def SPR.pr16 (n0 r p N : Nat) (X : Obj) (Y : Value → Obj) (L : List Fld) : SPR (Ra n0 r p N X Y L) := ⟨fun _ W => PrX r X W, fun _ _ _ h k => k.pr h⟩
def SPR.pp16 (n0 r p N : Nat) (X : Obj) (Y : Value → Obj) (L : List Fld) : SPR (Ra n0 r p N X Y L) := ⟨fun _ W => PpX p N Y L W, fun _ _ _ h k => k.pp h⟩
/-- A value made around a row of fields that a call has made. -/
def SPR.ft16 (n0 r p N : Nat) (X : Obj) (Y : Value → Obj) (L : List Fld) (hr : r < N) (hp : p < N) (V : Value → Value) : SPR (Ra n0 r p N X Y L) := ⟨fun x W => ∃ fv, x = V fv ∧ FT N fv L W, fun _ _ _ ⟨fv, h1, h2⟩ k => ⟨fv, h1, h2.kept (KpF.of k.low.size fun i hi hl => k.but i (by omega) (by omega) hl)⟩⟩
end

end Go.Proofs.YtceneblmllpdnaaDoor
