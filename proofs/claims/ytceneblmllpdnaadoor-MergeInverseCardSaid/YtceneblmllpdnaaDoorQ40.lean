/- Merged: XQ16. -/
import Derived.Test.YtceneblmllpdnaaDoorQ36
import Derived.Test.YtceneblmllpdnaaDoorQ22
import Derived.Laws.OwnMore
namespace Go.Proofs.YtceneblmllpdnaaDoor

section
open Go.RowKit Go.PlainAid
/-- The subfields of a field: in a row of the call's own, or where they lay in V. -/
def SQ (V : World) (B0 : Nat) (u : Value) (L : List Sub) (w : World) : Prop := SB B0 u L w ∨ QL u L V
theorem SQ.one {V : World} {B0 : Nat} {u : Value} {L : List Sub} {w : World} (h : SQ V B0 u L w) : u.oneCell' = true := h.elim (fun k => k.ql.one) (fun k => k.one)
theorem SQ.ql {V : World} {B0 : Nat} {u : Value} {L : List Sub} {w : World} (h : SQ V B0 u L w) (hb : Below V.heap.size V w) : QL u L w := h.elim (fun k => k.ql) (fun k => k.after hb)
theorem SQ.kept {V : World} {B0 : Nat} {u : Value} {L : List Sub} {w W : World} (h : SQ V B0 u L w) (hk : ∀ (b : Nat) (cs : Array Value), w.heap[b]? = some (.cells cs 65 (0, 0)) → W.heap[b]? = w.heap[b]?) : SQ V B0 u L W :=
  h.imp (fun k => own_kept k (fun b cs _ hb => hk b cs hb)) id
theorem SQ.after {V : World} {B0 : Nat} {u : Value} {L : List Sub} {w W : World} (h : SQ V B0 u L w) (hb : Below w.heap.size w W) : SQ V B0 u L W := h.kept (fun b _ hc => hb.block b (Array.getElem?_eq_some_iff.1 hc).1)
/-- A row of fields of the call's own; the subfields lie in rows of its own or where they lay in V. -/
def FM (V : World) (B0 B : Nat) (v : Value) (L : List Fld) (w : World) : Prop :=
  ∃ us : List Value, us.length = L.length ∧ w.ownsRow B 45 4 v L.length (cellsF L us) ∧ ∀ i, i < L.length → SQ V B0 (us.getD i .nilIface) (L.getD i fd0).subs w
section
variable {V : World} {B0 B : Nat} {v : Value} {L : List Fld} {w W : World}
theorem FM.kept (h : FM V B0 B v L w) (hk : ∀ (b : Nat) (cs : Array Value) (t : TypeId), w.heap[b]? = some (.cells cs t (0, 0)) → t = 45 ∨ t = 65 → W.heap[b]? = w.heap[b]?) : FM V B0 B v L W := by
  obtain ⟨us, h1, h2, h3⟩ := h
  exact ⟨us, h1, own_kept h2 (fun b cs _ hb => hk b cs _ hb (.inl rfl)), fun i hi => (h3 i hi).kept (fun b cs hb => hk b cs _ hb (.inr rfl))⟩
theorem FM.after (h : FM V B0 B v L w) (hb : Below w.heap.size w W) : FM V B0 B v L W := h.kept (fun b _ _ hc _ => hb.block b (Array.getElem?_eq_some_iff.1 hc).1)
theorem FM.empty (V w : World) (B0 B : Nat) (h : B ≤ w.heap.size) : FM V B0 B (.slice (some ⟨w.heap.size, 0, none⟩) 0 0) [] (w.alloc (.cells #[] 45)) :=
  ⟨[], rfl, World.ownsRow_made w #[] 0 h (Nat.zero_le _) rfl, fun i hi => by cases hi⟩
theorem FM.form (h : FM V B0 B v L w) : ∃ a c, v = .slice a L.length c := by
  obtain ⟨us, _, h2, _⟩ := h
  exact own_form h2
theorem FM.blk (h : FM V B0 B v L w) (b : Nat) (hb : v.ownBlock = some b) : B ≤ b ∧ ∃ cs, w.heap[b]? = some (.cells cs 45 (0, 0)) := by
  obtain ⟨us, h1, h2, h3⟩ := h
  rcases h2.2 with ⟨rfl, _⟩ | ⟨g, cap, cur, rfl, hB, hg, _⟩
  · cases hb
  · obtain rfl : g = b := Option.some.inj hb
    exact ⟨hB, _, hg⟩
theorem FM.fl (h : FM V B0 B v L w) (hbel : Below V.heap.size V w) : FL v L w := by
  obtain ⟨us, hl, hown, hq⟩ := h
  have hr : FR w B v L w := ⟨us, hl, hown, fun i hi => (hq i hi).ql hbel⟩
  exact hr.fl (Below.refl _ _)
end
/-- A slice of fields to be appended: its cells. -/
def SRC (V : World) (B0 : Nat) (x : Value) (M : List Fld) (w : World) : Prop :=
  (x = .slice none 0 0 ∧ M = []) ∨ ∃ g c us, x = .slice (some ⟨g, 0, none⟩) M.length c ∧ us.length = M.length ∧ (∀ i, i < M.length → SQ V B0 (us.getD i .nilIface) (M.getD i fd0).subs w) ∧ g < w.heap.size ∧ ∀ j u, (cellsF M us)[j]? = some u → w.cell? ⟨g, j, none⟩ = some u
theorem SRC.after {V : World} {B0 : Nat} {x : Value} {M : List Fld} {w w' : World} (h : SRC V B0 x M w) (hb : Below w.heap.size w w') : SRC V B0 x M w' := by
  rcases h with h | ⟨g, c, us, h1, h2, h3, h4, h5⟩
  · exact .inl h
  · exact .inr ⟨g, c, us, h1, h2, fun i hi => (h3 i hi).after hb, Nat.lt_of_lt_of_le h4 hb.size, fun j u hj => (hb.cell (p := ⟨g, j, none⟩) h4).trans (h5 j u hj)⟩
theorem FT.src {B : Nat} {x : Value} {M : List Fld} {w : World} (h : FT B x M w) (V : World) : SRC V B x M w := by
  obtain ⟨us, hl, hown, hq⟩ := h
  rcases id hown.2 with ⟨rfl, h0⟩ | ⟨g, cap, cur, rfl, hB, hg, _⟩
  · exact .inl ⟨rfl, List.eq_nil_of_length_eq_zero h0⟩
  · exact .inr ⟨g, cap, us, rfl, hl, fun i hi => .inl (hq i hi), (Array.getElem?_eq_some_iff.1 hg).1, fun j u hj => by
      have := hown.cells (g := g) rfl j u hj
      rwa [add_zero16, Nat.zero_add] at this⟩
theorem grown_refl16 (w : World) (o : Option Nat) : w.grownBy w o := by
  constructor <;> first | exact Nat.le_refl _ | (intros; rfl) | (intros; assumption) | rfl
/-- append of laid cells of fields to a row: its run, and where it lies. -/
theorem run_fm16 {V : World} {B0 B : Nat} {v : Value} {L M : List Fld} {w : World} (h : FM V B0 B v L w) (g c : Nat) (us' : List Value) (hl' : us'.length = M.length) (hq' : ∀ i, i < M.length → SQ V B0 (us'.getD i .nilIface) (M.getD i fd0).subs w)
    (hcell : ∀ j u, (cellsF M us')[j]? = some u → w.cell? ⟨g, j, none⟩ = some u) (hB : B ≤ w.heap.size) (hz : L.length + M.length ≤ 100001) (ty : TypeId) :
    ∃ v' w', (Builtin.append_ #[29, 29] ty #[v, .slice (some ⟨g, 0, none⟩) M.length c]).run Tryd.prog w = .ok v' w' ∧ FM V B0 B v' (L ++ M) w' ∧ w.grownBy w' v.ownBlock ∧ (v'.ownBlock = v.ownBlock ∨ v'.ownBlock = some w.heap.size) := by
  obtain ⟨i0, hi, hz0, hz1, hz2⟩ := info_fld
  have hF := h
  obtain ⟨us, hl, hown, hq⟩ := h
  have hone : ∀ u ∈ cellsF M us', u.oneCell' = true := cellsF_one M us' fun u hu => by
    obtain ⟨i, hi, rfl⟩ := List.mem_iff_getElem.1 hu
    have := (hq' i (by omega)).one
    rwa [List.getD_eq_getElem?_getD, List.getElem?_eq_getElem hi] at this
  obtain ⟨v', w', hr, hown', hg, -, hat⟩ := run_append_own_at (P := Tryd.prog) w B 29 ty 45 i0 (.agg #[.string ⟨#[]⟩, .string ⟨#[]⟩, .slice none 0 0, .int .i64 0]) 4 64 Tryd.underlying29 hi hz0 hz1 hz2 rfl (by decide) v L.length _ hown ⟨g, 0, none⟩ M.length c (cellsF M us') (cellsF_length M us' hl')
    (fun j u hj => by rw [add_zero16, Nat.zero_add]; exact hcell j u hj) hone (by unfold maxLen; omega) (by omega) hB
  have hmv : ∀ {y : Value} {l : List Sub}, SQ V B0 y l w → SQ V B0 y l w' := fun hy => hy.kept (fun b cs hb => hg.block b (Array.getElem?_eq_some_iff.1 hb).1 (fun e => by
    obtain ⟨-, cs', hc⟩ := hF.blk b e.symm
    exact typ_ne hc hb field_ne_sub rfl))
  refine ⟨v', w', hr, ⟨us ++ us', by rw [List.length_append, List.length_append, hl, hl'], ?_, fun i hi => ?_⟩, hg, hat⟩
  · rw [cellsF_app L us M us' hl, List.length_append]
    exact hown'
  · rw [getD_app, getD_appF, hl]
    by_cases h1 : i < L.length
    · rw [if_pos h1, if_pos h1]; exact hmv (hq i h1)
    · rw [if_neg h1, if_neg h1]
      exact hmv (hq' _ (by rw [List.length_append] at hi; omega))
/-- append of a slice of fields to a row: its run, and where it lies. -/
theorem run_frA16 {V : World} {B0 B : Nat} {v x : Value} {L M : List Fld} {w : World} (h : FM V B0 B v L w) (hx : SRC V B0 x M w) (hB : B ≤ w.heap.size) (hz : L.length + M.length ≤ 100000) (ty : TypeId) :
    ∃ v' w', (Builtin.append_ #[29, 29] ty #[v, x]).run Tryd.prog w = .ok v' w' ∧ FM V B0 B v' (L ++ M) w' ∧ w.grownBy w' v.ownBlock ∧ (v'.ownBlock = v.ownBlock ∨ v'.ownBlock = some w.heap.size) := by
  rcases hx with ⟨rfl, rfl⟩ | ⟨g, c, us', rfl, hl', hq', hgl, hcell⟩
  · obtain ⟨i0, hi, hz0, hz1, hz2⟩ := info_fld
    have hF := h
    obtain ⟨us, hl, hown, hq⟩ := h
    refine ⟨v, w, run_append_owned_none (P := Tryd.prog) (w := w) B 29 ty 45 i0 4 Tryd.underlying29 hi v L.length _ hown, by rwa [List.append_nil], grown_refl16 _ _, .inl rfl⟩
  · exact run_fm16 h g c us' hl' hq' hcell hB (by omega) ty
/-- append of one laid field to a row: its run. -/
theorem run_fq16 {V : World} {B0 B : Nat} {v : Value} {M : List Fld} {f : Fld} {u : Value} {w : World} (h : FM V B0 B v M w) (hu : SQ V B0 u f.subs w) (hB : B ≤ w.heap.size) (hz : M.length ≤ 100000) (ty : TypeId) (b : Nat) (hb : w.heap[b]? = some (.cells (encF f u).toArray 45 (0, 0))) :
    ∃ v' w', (Builtin.append_ #[29, 29] ty #[v, .slice (some ⟨b, 0, none⟩) 1 1]).run Tryd.prog w = .ok v' w' ∧ FM V B0 B v' (M ++ [f]) w' ∧ w.grownBy w' v.ownBlock := by
  have e : cellsF [f] [u] = encF f u := by simp [cellsF]
  obtain ⟨v', w', h1, h2, h3, -⟩ := run_fm16 (M := [f]) h b 1 [u] rfl (fun i hi => by
    obtain rfl : i = 0 := by simpa using hi
    exact hu) (fun j x hx => by
      rw [e] at hx
      rw [Lib.cell_of_heap hb]; simpa using hx) hB (by simp; omega) ty
  exact ⟨v', w', h1, h2, h3⟩

structure Xq (V : World) (B0 : Nat) (wq : World) (L : List Fld) (f : Fld) (u : Value) (d : Nat → Bool) (vs : Nat → Value) (w : World) : Prop where
  low : Below wq.heap.size wq w
  c0 : d 0 = true → d 3 = false → FM V B0 wq.heap.size (vs 0) [] w
  c3 : d 3 = true → d 6 = false → FM V B0 wq.heap.size (vs 3) L w
  c5 : d 5 = true → d 6 = false → ∃ b, vs 5 = .slice (some ⟨b, 0, none⟩) 1 1 ∧ w.heap[b]? = some (.cells (encF f u).toArray 45 (0, 0)) ∧ (d 0 = true → d 3 = false → (vs 0).ownBlock ≠ some b) ∧ (d 3 = true → (vs 3).ownBlock ≠ some b)
  c6 : d 6 = true → FM V B0 wq.heap.size (vs 6) (L ++ [f]) w
section
variable {V : World} {B0 : Nat} {wq : World} {L : List Fld} {f : Fld} {u : Value} {d : Nat → Bool} {vs : Nat → Value} {w : World}
theorem Xq.init (vs : Nat → Value) : Xq V B0 wq L f u (fun _ => false) vs wq.drew :=
  ⟨(Below.refl _ _).drew, (fun h => by cases h), (fun h => by cases h), (fun h => by cases h), (fun h => by cases h)⟩
theorem Xq.below (h : Xq V B0 wq L f u d vs w) {w' : World} (hb : Below w.heap.size w w') : Xq V B0 wq L f u d vs w' := by
  refine ⟨h.low.trans (hb.mono h.low.size), fun a b => (h.c0 a b).after hb, fun a b => (h.c3 a b).after hb, fun a b => ?_, fun a => (h.c6 a).after hb⟩
  obtain ⟨b', h1, h2, h3⟩ := h.c5 a b
  exact ⟨b', h1, (hb.block b' (Array.getElem?_eq_some_iff.1 h2).1).trans h2, h3⟩
theorem Xq.other (h : Xq V B0 wq L f u d vs w) (i : Nat) (v : Value) (hi : i ≠ 0 ∧ i ≠ 3 ∧ i ≠ 5 ∧ i ≠ 6) : Xq V B0 wq L f u (updB d i) (upd vs i v) w := by
  obtain ⟨n0, n3, n5, n6⟩ := hi
  constructor <;> (try simp only [updB_ne _ _ _ (Ne.symm n0), updB_ne _ _ _ (Ne.symm n3), updB_ne _ _ _ (Ne.symm n5), updB_ne _ _ _ (Ne.symm n6), upd_ne _ _ _ _ (Ne.symm n0), upd_ne _ _ _ _ (Ne.symm n3), upd_ne _ _ _ _ (Ne.symm n5), upd_ne _ _ _ _ (Ne.symm n6)])
  · exact h.low
  · exact h.c0
  · exact h.c3
  · exact h.c5
  · exact h.c6
/-- The new, empty slice. -/
theorem Xq.s0 (h : Xq V B0 wq L f u d vs w) (h3 : d 3 = false) (h6 : d 6 = false) : Xq V B0 wq L f u (updB d 0) (upd vs 0 (.slice (some ⟨w.heap.size, 0, none⟩) 0 0)) (w.alloc (.cells #[] 45)) := by
  have hb := (Below.refl w.heap.size w).alloc (Nat.le_refl _) (.cells #[] 45)
  have g := h.below hb
  constructor <;> (try simp only [updB_at, upd_at, updB_ne _ _ _ (show 3 ≠ 0 by decide), updB_ne _ _ _ (show 5 ≠ 0 by decide), updB_ne _ _ _ (show 6 ≠ 0 by decide), upd_ne _ _ _ _ (show 3 ≠ 0 by decide), upd_ne _ _ _ _ (show 5 ≠ 0 by decide), upd_ne _ _ _ _ (show 6 ≠ 0 by decide)])
  · exact g.low
  · exact fun _ _ => FM.empty V w B0 wq.heap.size h.low.size
  · exact g.c3
  · intro a b
    obtain ⟨b', h1, h2, -⟩ := g.c5 a b
    obtain ⟨b2, k1, k2, -⟩ := h.c5 a b
    have e : b' = b2 := by rw [h1] at k1; injection k1 with q1; injection Option.some.inj q1
    subst e
    refine ⟨b', h1, h2, (fun _ _ e => ?_), (fun a => by rw [h3] at a; cases a)⟩
    have e2 : w.heap.size = b' := Option.some.inj e
    have := (Array.getElem?_eq_some_iff.1 k2).1
    omega
  · intro a; rw [h6] at a; cases a
/-- The fields behind it. -/
theorem Xq.s3 (h : Xq V B0 wq L f u d vs w) {x : Value} (hx : SRC V B0 x L wq) (hz : L.length ≤ 100000) (h0 : d 0 = true) (h3 : d 3 = false) (h6 : d 6 = false) (ty : TypeId) :
    ∃ v' w', (Builtin.append_ #[29, 29] ty #[vs 0, x]).run Tryd.prog w = .ok v' w' ∧ Xq V B0 wq L f u (updB d 3) (upd vs 3 v') w' := by
  obtain ⟨v', w', hr, hf, hg, hat⟩ := run_frA16 (h.c0 h0 h3) (hx.after h.low) h.low.size (by simpa using hz) ty
  refine ⟨v', w', hr, ?_⟩
  constructor <;> (try simp only [updB_at, upd_at, updB_ne _ _ _ (show 0 ≠ 3 by decide), updB_ne _ _ _ (show 5 ≠ 3 by decide), updB_ne _ _ _ (show 6 ≠ 3 by decide), upd_ne _ _ _ _ (show 0 ≠ 3 by decide), upd_ne _ _ _ _ (show 5 ≠ 3 by decide), upd_ne _ _ _ _ (show 6 ≠ 3 by decide)])
  · exact h.low.grown hg h.low.size (fun j hj => ((h.c0 h0 h3).blk j hj).1)
  · intro _ a; cases a
  · exact fun _ _ => hf
  · intro a b
    obtain ⟨b', h1, h2, k1, -⟩ := h.c5 a b
    have hl := (Array.getElem?_eq_some_iff.1 h2).1
    refine ⟨b', h1, (hg.block b' hl (fun e => k1 h0 h3 e.symm)).trans h2, (fun _ a => by cases a), (fun _ e => ?_)⟩
    rcases hat with q | q
    · exact k1 h0 h3 (q ▸ e)
    · rw [q] at e
      have e2 : w.heap.size = b' := Option.some.inj e
      omega
  · intro a; rw [h6] at a; cases a
/-- The field that is laid. -/
theorem Xq.s5 (h : Xq V B0 wq L f u d vs w) (h6 : d 6 = false) : Xq V B0 wq L f u (updB d 5) (upd vs 5 (.slice (some ⟨w.heap.size, 0, none⟩) 1 1)) (w.alloc (.cells #[.string (S f.tag), .string (S f.ind), u, .int .i64 f.auth] 45)) := by
  have hb := (Below.refl w.heap.size w).alloc (Nat.le_refl _) (.cells #[.string (S f.tag), .string (S f.ind), u, .int .i64 f.auth] 45)
  have g := h.below hb
  constructor <;> (try simp only [updB_at, upd_at, updB_ne _ _ _ (show 0 ≠ 5 by decide), updB_ne _ _ _ (show 3 ≠ 5 by decide), updB_ne _ _ _ (show 6 ≠ 5 by decide), upd_ne _ _ _ _ (show 0 ≠ 5 by decide), upd_ne _ _ _ _ (show 3 ≠ 5 by decide), upd_ne _ _ _ _ (show 6 ≠ 5 by decide)])
  · exact g.low
  · exact g.c0
  · exact g.c3
  · refine fun _ _ => ⟨w.heap.size, rfl, heap_alloc_new w _, fun a b e => ?_, fun a e => ?_⟩
    · obtain ⟨-, cs, hc⟩ := (h.c0 a b).blk _ e
      have := (Array.getElem?_eq_some_iff.1 hc).1
      omega
    · obtain ⟨-, cs, hc⟩ := (h.c3 a h6).blk _ e
      have := (Array.getElem?_eq_some_iff.1 hc).1
      omega
  · intro a; rw [h6] at a; cases a
/-- The field behind the others. -/
theorem Xq.s6 (h : Xq V B0 wq L f u d vs w) (hu : SQ V B0 u f.subs wq) (hz : L.length ≤ 100000) (h3 : d 3 = true) (h5 : d 5 = true) (h6 : d 6 = false) (ty : TypeId) :
    ∃ b v' w', vs 5 = .slice (some ⟨b, 0, none⟩) 1 1 ∧ (Builtin.append_ #[29, 29] ty #[vs 3, .slice (some ⟨b, 0, none⟩) 1 1]).run Tryd.prog w = .ok v' w' ∧ Xq V B0 wq L f u (updB d 6) (upd vs 6 v') w' := by
  obtain ⟨b, e5, hb, -, -⟩ := h.c5 h5 h6
  obtain ⟨v', w', hr, hf, hg⟩ := run_fq16 (h.c3 h3 h6) (hu.after h.low) h.low.size hz ty b hb
  refine ⟨b, v', w', e5, hr, ?_⟩
  constructor <;> (try simp only [updB_at, upd_at, updB_ne _ _ _ (show 0 ≠ 6 by decide), updB_ne _ _ _ (show 3 ≠ 6 by decide), updB_ne _ _ _ (show 5 ≠ 6 by decide), upd_ne _ _ _ _ (show 0 ≠ 6 by decide), upd_ne _ _ _ _ (show 3 ≠ 6 by decide), upd_ne _ _ _ _ (show 5 ≠ 6 by decide)])
  · exact h.low.grown hg h.low.size (fun j hj => ((h.c3 h3 h6).blk j hj).1)
  · intro a b
    rw [h3] at b; cases b
  · intro _ a; cases a
  · intro _ a; cases a
  · exact fun _ => hf
end
/-- Two new boxes for records. -/
def box3W (w : World) : World := (w.alloc (.cells #[.int .i64 0, .int .i64 0, .int .i64 0, .string ⟨#[]⟩, .slice none 0 0] 31)).alloc (.cells #[.int .i64 0, .int .i64 0, .int .i64 0, .string ⟨#[]⟩, .slice none 0 0] 31)
theorem box3_one (w : World) : (box3W w).heap[w.heap.size]? = some (.cells #[.int .i64 0, .int .i64 0, .int .i64 0, .string ⟨#[]⟩, .slice none 0 0] 31 (0, 0)) := (Below.heap_alloc _ _ _ (by simp)).trans (heap_alloc_new w _)
theorem box3_two (w : World) (ca : Array Value) : ((box3W w).setRow w.heap.size ca).heap[w.heap.size + 1]? = some (.cells #[.int .i64 0, .int .i64 0, .int .i64 0, .string ⟨#[]⟩, .slice none 0 0] 31 (0, 0)) := by
  refine (setRow_other _ _ _ _ (by omega)).trans ?_
  have := heap_alloc_new (w.alloc (.cells #[.int .i64 0, .int .i64 0, .int .i64 0, .string ⟨#[]⟩, .slice none 0 0] 31)) (.cells #[.int .i64 0, .int .i64 0, .int .i64 0, .string ⟨#[]⟩, .slice none 0 0] 31)
  simpa [box3W] using this
theorem box3_below (w : World) (ca cb : Array Value) : Below w.heap.size w (((box3W w).setRow w.heap.size ca).setRow (w.heap.size + 1) cb) :=
  below_setRow (below_setRow (((Below.refl _ _).alloc (Nat.le_refl _) _).alloc (by simp) _) (Nat.le_refl _) _) (by omega) _
theorem box3_a (w : World) (ca cb : Array Value) : (((box3W w).setRow w.heap.size ca).setRow (w.heap.size + 1) cb).heap[w.heap.size]? = some (.cells ca 31 (0, 0)) :=
  (setRow_other _ _ _ _ (by omega)).trans (setRow_heap _ _ _ _ _ _ (box3_one w))
theorem box3_b (w : World) (ca cb : Array Value) : (((box3W w).setRow w.heap.size ca).setRow (w.heap.size + 1) cb).heap[w.heap.size + 1]? = some (.cells cb 31 (0, 0)) := setRow_heap _ _ _ _ _ _ (box3_two w ca)
end

end Go.Proofs.YtceneblmllpdnaaDoor
