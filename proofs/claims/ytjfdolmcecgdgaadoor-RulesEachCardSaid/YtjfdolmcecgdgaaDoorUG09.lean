/- Package rules: the function that checkField hands on, which reports a problem. -/
import Derived.Test.YtjfdolmcecgdgaaDoorRG09
import Derived.Test.YtjfdolmcecgdgaaDoorBM09
namespace Go.Proofs.YtjfdolmcecgdgaaDoor
open Go.RowKit Go.PlainAid

theorem own_form9 {w : World} {B e size n : Nat} {v : Value} {xs : List Value} (h : w.ownsRow B e size v n xs) : ∃ ao cp, v = .slice ao n cp := by
  rcases h.2 with ⟨h0, h1⟩ | ⟨g, cap, cur, hv, _⟩
  · exact ⟨none, 0, by rw [h0, h1]⟩
  · exact ⟨_, cap, hv⟩
/-- Every block but bl that is no row of problems lies as it lay. -/
structure Fr (bl : Nat) (W W' : World) : Prop where
  size : W.heap.size ≤ W'.heap.size
  keep : ∀ b o, W.heap[b]? = some o → b ≠ bl → (∀ cs fr, o ≠ .cells cs 44 fr) → W'.heap[b]? = some o
theorem Fr.refl (bl : Nat) (W : World) : Fr bl W W := ⟨Nat.le_refl _, fun _ _ h _ _ => h⟩
theorem Fr.trans {bl : Nat} {A B C : World} (h : Fr bl A B) (k : Fr bl B C) : Fr bl A C := ⟨Nat.le_trans h.size k.size, fun b o h1 h2 h3 => k.keep b o (h.keep b o h1 h2 h3) h2 h3⟩
theorem Fr.of_below {bl : Nat} {W W' : World} (h : Below W.heap.size W W') : Fr bl W W' := ⟨h.size, fun b _ h1 _ _ => (h.block b (Array.getElem?_eq_some_iff.1 h1).1).trans h1⟩
theorem Fr.of_own {bl B : Nat} {v : Value} {L : List Prb} {W W' : World} (h : PR B v L W) (hg : W.grownBy W' v.ownBlock) : Fr bl W W' := by
  refine ⟨hg.size, fun b o h1 _ h3 => (hg.block b (Array.getElem?_eq_some_iff.1 h1).1 fun he => ?_).trans h1⟩
  rcases h.2 with ⟨rfl, _⟩ | ⟨g, cap, cur, rfl, _, hgg, _⟩
  · cases he
  · simp only [Value.ownBlock, Option.some.injEq] at he
    subst he
    rw [hgg] at h1
    exact h3 _ _ (Option.some.inj h1).symm
theorem Fr.set {bl : Nat} {W : World} (v : Value) : Fr bl W (W.setCell ⟨bl, 0, none⟩ v) := ⟨by simp [World.setCell], fun b o h1 h2 _ => (Below.heap_setCell _ _ _ _ h2).trans h1⟩

/-- append of a slice of problems to a row of the call's own: nothing else has turned. -/
theorem append_pr2 {ops : Array Oper} {rest : List Oper} {o : Oper} {a : Act} {Q : Exit → Act → World → Prop} (w : World) (hgd : o.guard = none) (s x : Operand)
    (ho : o.op = .call { callee := .builtin .append, args := #[s, x], argTypes := #[39, 39] })
    (B : Nat) (v : Value) (L : List Prb) (hs : a.eval s = v) (hr : PR B v L w) (u : Value) (M : List Prb) (hx : a.eval x = u) (hM : PL u M w)
    (hz : L.length + M.length ≤ 1000000) (hB : B ≤ w.heap.size)
    (h : ∀ v' w', PR B v' (L ++ M) w' → w.grownBy w' v.ownBlock → wpList Tryd.prog ops Q rest (a.put o.dst v') w') : wpList Tryd.prog ops Q (o :: rest) a w := by
  obtain ⟨i0, hi, hz0, hz1, hz2⟩ := info_prb
  rcases hM.none_or with ⟨rfl, rfl⟩ | ⟨ad, cap, rfl, hc, hm, hcell⟩
  · refine wpList_append_own_none hgd s x _ ho B _ i0 4 Tryd.underlying39 hi v L.length (cellsP L) hs hr hx (h v w ?_ ⟨rfl, rfl, rfl, Nat.le_refl _, fun _ _ _ => rfl⟩)
    rw [List.append_nil]; exact hr
  · refine wpList_append_own w hgd s x _ ho B _ i0 (.agg #[.int .i64 0, .int .i64 0, .string ⟨#[]⟩, .int .u8 0]) 4 40 Tryd.underlying39 hi hz0 hz1 hz2 rfl (by decide) v L.length (cellsP L) hs hr ad M.length cap (cellsP M) hx
      (cellsP_length M) hcell (cellsP_one M) (by unfold maxLen; omega) (by omega) hB fun v' w' hown' hgrow hnil => h v' w' ?_ hgrow
    unfold PR
    rw [cellsP_app, List.length_append]
    exact hown'

/-- What lies in memory while a field's problems are gathered: the list in its box (bl), the index and the field in theirs; the list's row lies from block B on. -/
structure RP (w0 : World) (B bl bi bf : Nat) (tg : List UInt8) (ix : Int) (L : List Prb) (W : World) : Prop where
  list : ∃ v, W.heap[bl]? = some (.cells #[v] 39 (0, 0)) ∧ PR B v L W
  idx : W.heap[bi]? = some (.cells #[.int .i64 ix] 3 (0, 0))
  fld : ∃ i u a, W.heap[bf]? = some (.cells #[.string (S tg), i, u, a] 47 (0, 0))
  bel : Below w0.heap.size w0 W
  hb : w0.heap.size ≤ bl ∧ bl < B ∧ B ≤ W.heap.size ∧ bi ≠ bl ∧ bf ≠ bl
theorem RP.after {w0 : World} {B bl bi bf : Nat} {tg : List UInt8} {ix : Int} {L : List Prb} {W W' : World} (h : RP w0 B bl bi bf tg ix L W) (hb : Below W.heap.size W W') : RP w0 B bl bi bf tg ix L W' := by
  obtain ⟨⟨v, h1, h2⟩, h3, ⟨i, u, a, h4⟩, h5, h6⟩ := h
  have lt : ∀ {b : Nat} {o : Obj}, W.heap[b]? = some o → b < W.heap.size := fun k => (Array.getElem?_eq_some_iff.1 k).1
  exact ⟨⟨v, (hb.block _ (lt h1)).trans h1, h2.after hb⟩, (hb.block _ (lt h3)).trans h3, ⟨i, u, a, (hb.block _ (lt h4)).trans h4⟩, h5.trans (hb.mono h5.size), h6.1, h6.2.1, Nat.le_trans h6.2.2.1 hb.size, h6.2.2.2⟩
/-- One block that holds none of this has turned. -/
theorem RP.grown {w0 : World} {B bl bi bf : Nat} {tg : List UInt8} {ix : Int} {L : List Prb} {W W' : World} (h : RP w0 B bl bi bf tg ix L W) (c : Nat) {es : Array MapEntry} {k : Nat} (hc : W.heap[c]? = some (.map es k)) (hc0 : w0.heap.size ≤ c) (hg : W.grownBy W' (some c)) : RP w0 B bl bi bf tg ix L W' := by
  obtain ⟨⟨v, h1, h2⟩, h3, ⟨i, u, a, h4⟩, h5, h6⟩ := h
  have lt : ∀ {b : Nat} {o : Obj}, W.heap[b]? = some o → b < W.heap.size := fun k => (Array.getElem?_eq_some_iff.1 k).1
  have kp : ∀ {b : Nat} {cs : Array Value} {t : TypeId} {fr : Nat × Nat}, W.heap[b]? = some (.cells cs t fr) → W'.heap[b]? = some (.cells cs t fr) := fun {b cs t fr} k => (hg.block b (lt k) (by
    intro e
    obtain rfl := Option.some.inj e
    rw [hc] at k
    cases k)).trans k
  refine ⟨⟨v, kp h1, h2.1, ?_⟩, kp h3, ⟨i, u, a, kp h4⟩, h5.trans ⟨hg.os, hg.tape, hg.output, hg.size, fun b hb => hg.block b (Nat.lt_of_lt_of_le hb h5.size) (fun e => by obtain rfl := Option.some.inj e; omega)⟩, h6.1, h6.2.1, Nat.le_trans h6.2.2.1 hg.size, h6.2.2.2⟩
  rcases h2.2 with hn | ⟨g, cap, cur, hv, hB, hgg, rest⟩
  · exact .inl hn
  · exact .inr ⟨g, cap, cur, hv, hB, kp hgg, rest⟩
theorem RP.end {w0 : World} {B bl bi bf : Nat} {tg : List UInt8} {ix : Int} {L : List Prb} {W w3 : World} (h : RP w0 B bl bi bf tg ix L W) {v v' : Value} {p : Prb} (hv : W.heap[bl]? = some (.cells #[v] 39 (0, 0))) (o : Obj)
    (hr : PR B v L (W.alloc o)) (hr' : PR B v' (L ++ [p]) w3) (hg : (W.alloc o).grownBy w3 v.ownBlock) : RP w0 B bl bi bf tg ix (L ++ [p]) (w3.setCell ⟨bl, 0, none⟩ v') ∧ Fr bl W (w3.setCell ⟨bl, 0, none⟩ v') := by
  have ha : Below W.heap.size W (W.alloc o) := (Below.refl _ _).alloc (Nat.le_refl _) _
  have f1 : Fr bl W (W.alloc o) := Fr.of_below ha
  have f2 : Fr bl (W.alloc o) w3 := Fr.of_own hr hg
  have f3 : Fr bl w3 (w3.setCell ⟨bl, 0, none⟩ v') := Fr.set v'
  have f := (f1.trans f2).trans f3
  obtain ⟨_, h3, ⟨i, u, a, h4⟩, h5, h6⟩ := h
  refine ⟨⟨⟨v', ?_, ?_⟩, f.keep _ _ h3 h6.2.2.2.1 (fun cs fr e => by cases e), ⟨i, u, a, f.keep _ _ h4 h6.2.2.2.2 (fun cs fr e => by cases e)⟩, ?_, h6.1, h6.2.1, Nat.le_trans h6.2.2.1 f.size, h6.2.2.2⟩, f⟩
  · have e1 : w3.heap[bl]? = some (.cells #[v] 39 (0, 0)) := by
      have e0 : (W.alloc o).heap[bl]? = some (.cells #[v] 39 (0, 0)) := (ha.block _ (Array.getElem?_eq_some_iff.1 hv).1).trans hv
      refine (hg.block bl (Array.getElem?_eq_some_iff.1 e0).1 fun he => ?_).trans e0
      have := World.ownsRow.lt hr bl he.symm
      omega
    simp [World.setCell, Array.getElem?_modify, e1]
  · refine ⟨hr'.1, ?_⟩
    rcases hr'.2 with hn | ⟨g, cap, cur, hv, hB, hgg, rest⟩
    · exact .inl hn
    · exact .inr ⟨g, cap, cur, hv, hB, (Below.heap_setCell _ _ _ _ (by show g ≠ bl; omega)).trans hgg, rest⟩
  · have b1 := h5.trans (ha.mono h5.size)
    have b2 := b1.grown hg b1.size (fun j hj => by
      have := World.ownsRow.lt hr j hj
      omega)
    exact b2.setCell (p := ⟨bl, 0, none⟩) h6.1 v'

set_option maxHeartbeats 8000000 in
theorem uReport_any (w0 : World) (B bl bi bf : Nat) (tg : List UInt8) (ix : Int) (L : List Prb) (W : World) (h : RP w0 B bl bi bf tg ix L W) (kind : Int) (code : UInt8) (hz : L.length ≤ 900000) :
    Calls Tryd.prog 39 #[.int .i64 kind, .int .u8 (code.toNat : Int), .pointer (some ⟨bl, 0, none⟩), .pointer (some ⟨bi, 0, none⟩), .pointer (some ⟨bf, 0, none⟩)] W
      fun e W' => e = .returned (.tuple #[]) ∧ RP w0 B bl bi bf tg ix (L ++ [⟨kind, ix, tg, code⟩]) W' ∧ Fr bl W W' := by
  have HR := Lib.hid h
  obtain ⟨⟨v, h1, h2⟩, h3, ⟨i, u, a, h4⟩, h5, h6⟩ := h
  obtain ⟨ao, cp, rfl⟩ := own_form9 h2
  have k1 : W.cell? ⟨bl, 0, none⟩ = some (.slice ao L.length cp) := by rw [Lib.cell_of_heap h1]; rfl
  have k2 : W.cell? ⟨bi, 0, none⟩ = some (.int .i64 ix) := by rw [Lib.cell_of_heap h3]; rfl
  have k3 : W.cell? ⟨bf, 0, none⟩ = some (.string (S tg)) := by rw [Lib.cell_of_heap h4]; rfl
  have hOne := PL.one W ⟨kind, ix, tg, code⟩
  have hRow := h2.after ((Below.refl W.heap.size W).alloc (Nat.le_refl _) (.cells #[.int .i64 kind, .int .i64 ix, .string (S tg), .int .u8 (code.toNat : Int)] 44))
  have HEnd := Lib.hid (fun v' w3 hr' hg => HR.out.end (v' := v') (w3 := w3) (p := ⟨kind, ix, tg, code⟩) h1 (.cells #[.int .i64 kind, .int .i64 ix, .string (S tg), .int .u8 (code.toNat : Int)] 44) hRow hr' hg)
  have HFz := Lib.hid (fun (w3 : World) (hg : (W.alloc (.cells #[.int .i64 kind, .int .i64 ix, .string (S tg), .int .u8 (code.toNat : Int)] 44)).grownBy w3 (Value.slice ao L.length cp).ownBlock) => show w3.heap[bl]? = some (.cells #[.slice ao L.length cp] 39 (0, 0)) from by
    have e0 : (W.alloc (.cells #[.int .i64 kind, .int .i64 ix, .string (S tg), .int .u8 (code.toNat : Int)] 44)).heap[bl]? = some (.cells #[.slice ao L.length cp] 39 (0, 0)) := (Below.heap_alloc _ _ _ (Array.getElem?_eq_some_iff.1 h1).1).trans h1
    refine (hg.block bl (Array.getElem?_eq_some_iff.1 e0).1 fun he => ?_).trans e0
    have := World.ownsRow.lt hRow bl he.symm
    omega)
  have hBs : B ≤ (W.alloc (.cells #[.int .i64 kind, .int .i64 ix, .string (S tg), .int .u8 (code.toNat : Int)] 44)).heap.size := by simp; omega
  have HRow := Lib.hid hRow
  have HOne := Lib.hid hOne
  have HBs := Lib.hid hBs
  obtain ⟨n, hn⟩ : ∃ n, L.length = n := ⟨_, rfl⟩
  rw [hn] at k1 HRow HEnd HFz hz
  have HN := Lib.hid hn
  clear h1 h2 h3 h4 h5 h6 hOne hRow hBs hn
  obtain ⟨cv, hcv⟩ : ∃ cv, ((code.toNat : Nat) : Int) = cv := ⟨_, rfl⟩
  obtain ⟨st, hst⟩ : ∃ st, S tg = st := ⟨_, rfl⟩
  rw [hcv, hst] at HEnd HFz HRow HBs
  rw [hcv]
  rw [hst] at k3
  replace HOne : RowKit.Hid (PL (.slice (some ⟨W.heap.size, 0, none⟩) 1 1) [⟨kind, ix, tg, code⟩] (W.alloc (.cells #[.int .i64 kind, .int .i64 ix, .string st, .int .u8 cv] 44))) := by
    rw [← hcv, ← hst]
    exact HOne.out
  clear hcv hst
  go_enter Tryd.func39, Tryd.ntmps39
  go_wp2_with (at_builtin; refine append_pr2 _ rfl _ _ rfl B _ L rfl HRow.out _ [⟨kind, ix, tg, code⟩] rfl HOne.out (by rw [HN.out]; simp; omega) HBs.out ?_; intro v3 w3 hown3 hgrow3; obtain ⟨ao3, cp3, hv3⟩ := own_form9 hown3; rw [hv3] at hown3 ⊢; have hbx := HFz.out w3 hgrow3; have f0 := Lib.frozen_of_heap hbx 0; have y0 : w3.cell? ⟨bl, 0, none⟩ = some (.slice ao n cp) := (by rw [Lib.cell_of_heap hbx]; rfl); have HE3 := Lib.hid (HEnd.out _ w3 hown3 hgrow3); clear hbx hv3 hown3 hgrow3 HEnd HFz)
  go_end0
  have hE := HE3.out
  rw [List.length_append, List.length_singleton] at hE
  exact ⟨rfl, hE⟩
end Go.Proofs.YtjfdolmcecgdgaaDoor
