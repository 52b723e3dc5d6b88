/- Merged: FA16, BW16, BX16. -/
import Derived.Test.YtceneblmllpdnaaDoorQ23
import Derived.Maps.AppendAt
import Derived.Test.YtceneblmllpdnaaDoorProg
import Derived.Lib.Hide
import Derived.RangeFuncNested
import Derived.RangeFuncBound
import Derived.RangeFuncCalls
import Derived.RangeFuncLeaves
import Derived.RangeFuncBox
import Derived.Shelf.Abstract
import Derived.Shelf.RegionOpen
import Derived.WalkKit
import Derived.OwnWalkIn
import Derived.TacticsInMore
import Derived.LoopNIn
import Derived.LoopIn
namespace Go.Proofs.YtceneblmllpdnaaDoor

section
open Go.RowKit Go.PlainAid
/-- A row that has just been laid. -/
theorem FT.made {B : Nat} (w : World) (L : List Fld) (us : List Value) (hl : us.length = L.length) (hB : B ≤ w.heap.size) (hm : L.length ≤ 100000) (hs : ∀ i, i < L.length → SB B (us.getD i .nilIface) (L.getD i fd0).subs w) :
    FT B (.slice (some ⟨w.heap.size, 0, none⟩) L.length L.length) L (w.alloc (.cells (cellsF L us).toArray 45)) := by
  have hb := (Below.refl w.heap.size w).alloc (Nat.le_refl _) (.cells (cellsF L us).toArray 45)
  refine ⟨us, hl, ⟨cellsF_length L us hl, .inr ⟨w.heap.size, L.length, _, rfl, hB, heap_alloc_new w _, Nat.le_refl _, by unfold maxLen; omega, ?_, ?_⟩⟩, fun i hi => (hs i hi).after hb⟩
  · rw [List.size_toArray, cellsF_length L us hl]
  · show (cellsF L us).take (L.length * 4) = _
    rw [List.take_of_length_le (by rw [cellsF_length L us hl]; exact Nat.le_refl _)]
theorem FT.empty (w : World) (B : Nat) (h : B ≤ w.heap.size) : FT B (.slice (some ⟨w.heap.size, 0, none⟩) 0 0) [] (w.alloc (.cells #[] 45)) :=
  ⟨[], rfl, World.ownsRow_made w #[] 0 h (Nat.zero_le _) rfl, fun i hi => by cases hi⟩
/-- The cells of a row that isn't nil. -/
theorem FT.cells {B : Nat} {x : Value} {M : List Fld} {w : World} (h : FT B x M w) : (x = .slice none 0 0 ∧ M = []) ∨ ∃ g c us, x = .slice (some ⟨g, 0, none⟩) M.length c ∧ us.length = M.length ∧ (∀ i, i < M.length → SB B (us.getD i .nilIface) (M.getD i fd0).subs w) ∧ ∀ j u, (cellsF M us)[j]? = some u → w.cell? ((⟨g, 0, none⟩ : Addr).add j) = some u := by
  obtain ⟨us, h1, h2, h3⟩ := h
  rcases id h2.2 with ⟨rfl, h0⟩ | ⟨g, cap, cur, rfl, _⟩
  · exact .inl ⟨rfl, List.eq_nil_of_length_eq_zero h0⟩
  · exact .inr ⟨g, cap, us, rfl, h1, h3, fun j u hj => h2.cells (g := g) rfl j u hj⟩
/-- append of a whole row to another: its run. -/
theorem run_ftA {B : Nat} {v x : Value} {L M : List Fld} {w : World} (h : FT B v L w) (hx : FT B x M w) (hB : B ≤ w.heap.size) (hz : L.length + M.length ≤ 100000) (ty : TypeId) (hne : x ≠ .slice none 0 0) :
    ∃ v' w', (Builtin.append_ #[29, 29] ty #[v, x]).run Tryd.prog w = .ok v' w' ∧ FT B v' (L ++ M) w' ∧ w.grownBy w' v.ownBlock ∧ (v' = .slice none 0 0 → v = .slice none 0 0) := by
  obtain ⟨i0, hi, hz0, hz1, hz2⟩ := info_fld
  rcases hx.cells with ⟨e, -⟩ | ⟨g, c, us', rfl, hl', hs', hcell⟩
  · exact absurd e hne
  obtain ⟨us, hl, hown, hq⟩ := h
  have hone : ∀ u ∈ cellsF M us', u.oneCell' = true := cellsF_one M us' fun u hu => by
    obtain ⟨i, hi, rfl⟩ := List.mem_iff_getElem.1 hu
    have := (hs' i (by omega)).ql.one
    rwa [List.getD_eq_getElem?_getD, List.getElem?_eq_getElem hi] at this
  obtain ⟨v', w', hr, hown', hg, hn⟩ := run_append_own (P := Tryd.prog) w B 29 ty 45 i0 (.agg #[.string ⟨#[]⟩, .string ⟨#[]⟩, .slice none 0 0, .int .i64 0]) 4 64 Tryd.underlying29 hi hz0 hz1 hz2 rfl (by decide) v L.length _ hown ⟨g, 0, none⟩ M.length c (cellsF M us') (cellsF_length M us' hl')
    hcell hone (by unfold maxLen; omega) (by omega) hB
  refine ⟨v', w', hr, ⟨us ++ us', by rw [List.length_append, List.length_append, hl, hl'], ?_, fun i hi => ?_⟩, hg, fun e => (hn.1 e).1⟩
  · rw [cellsF_app L us M us' hl, List.length_append]
    exact hown'
  · have hmv : ∀ {y : Value} {l : List Sub}, SB B y l w → SB B y l w' := fun hy => own_kept hy (fun b cs _ hb => hg.block b (Array.getElem?_eq_some_iff.1 hb).1 (fun e => by
      rcases hown.2 with ⟨rfl, _⟩ | ⟨g2, cap, cur, rfl, _, hgg, _⟩
      · cases e
      · have e2 : b = g2 := Option.some.inj e
        exact typ_ne hgg hb field_ne_sub e2.symm))
    rw [getD_app, getD_appF, hl]
    by_cases h1 : i < L.length
    · rw [if_pos h1, if_pos h1]; exact hmv (hq i h1)
    · rw [if_neg h1, if_neg h1]
      exact hmv (hs' _ (by rw [List.length_append] at hi; omega))
/-- append of a whole row to another: its run, and where it lies. -/
theorem run_ftA2 {B : Nat} {v x : Value} {L M : List Fld} {w : World} (h : FT B v L w) (hx : FT B x M w) (hB : B ≤ w.heap.size) (hz : L.length + M.length ≤ 100000) (ty : TypeId) (hne : x ≠ .slice none 0 0) :
    ∃ v' w', (Builtin.append_ #[29, 29] ty #[v, x]).run Tryd.prog w = .ok v' w' ∧ FT B v' (L ++ M) w' ∧ w.grownBy w' v.ownBlock ∧ (v'.ownBlock = v.ownBlock ∨ v'.ownBlock = some w.heap.size) := by
  obtain ⟨i0, hi, hz0, hz1, hz2⟩ := info_fld
  rcases hx.cells with ⟨e, -⟩ | ⟨g, c, us', rfl, hl', hs', hcell⟩
  · exact absurd e hne
  obtain ⟨us, hl, hown, hq⟩ := h
  have hone : ∀ u ∈ cellsF M us', u.oneCell' = true := cellsF_one M us' fun u hu => by
    obtain ⟨i, hi, rfl⟩ := List.mem_iff_getElem.1 hu
    have := (hs' i (by omega)).ql.one
    rwa [List.getD_eq_getElem?_getD, List.getElem?_eq_getElem hi] at this
  obtain ⟨v', w', hr, hown', hg, -, hat⟩ := run_append_own_at (P := Tryd.prog) w B 29 ty 45 i0 (.agg #[.string ⟨#[]⟩, .string ⟨#[]⟩, .slice none 0 0, .int .i64 0]) 4 64 Tryd.underlying29 hi hz0 hz1 hz2 rfl (by decide) v L.length _ hown ⟨g, 0, none⟩ M.length c (cellsF M us') (cellsF_length M us' hl')
    hcell hone (by unfold maxLen; omega) (by omega) hB
  refine ⟨v', w', hr, ⟨us ++ us', by rw [List.length_append, List.length_append, hl, hl'], ?_, fun i hi => ?_⟩, hg, hat⟩
  · rw [cellsF_app L us M us' hl, List.length_append]
    exact hown'
  · have hmv : ∀ {y : Value} {l : List Sub}, SB B y l w → SB B y l w' := fun hy => own_kept hy (fun b cs _ hb => hg.block b (Array.getElem?_eq_some_iff.1 hb).1 (fun e => by
      rcases hown.2 with ⟨rfl, _⟩ | ⟨g2, cap, cur, rfl, _, hgg, _⟩
      · cases e
      · have e2 : b = g2 := Option.some.inj e
        exact typ_ne hgg hb field_ne_sub e2.symm))
    rw [getD_app, getD_appF, hl]
    by_cases h1 : i < L.length
    · rw [if_pos h1, if_pos h1]; exact hmv (hq i h1)
    · rw [if_neg h1, if_neg h1]
      exact hmv (hs' _ (by rw [List.length_append] at hi; omega))
/-- append of one laid field: its run, and where it lies. -/
theorem run_ft2 {B : Nat} {mv : Value} {M : List Fld} {f : Fld} {u : Value} {w : World} (h : FT B mv M w) (hu : SB B u f.subs w) (hB : B ≤ w.heap.size) (hz : M.length ≤ 100000) (ty : TypeId) (b : Nat) (hb : w.heap[b]? = some (.cells (encF f u).toArray 45 (0, 0))) :
    ∃ v' w', (Builtin.append_ #[29, 29] ty #[mv, .slice (some ⟨b, 0, none⟩) 1 1]).run Tryd.prog w = .ok v' w' ∧ FT B v' (M ++ [f]) w' ∧ w.grownBy w' mv.ownBlock ∧ (v'.ownBlock = mv.ownBlock ∨ v'.ownBlock = some w.heap.size) := by
  obtain ⟨i0, hi, hz0, hz1, hz2⟩ := info_fld
  obtain ⟨xs, hrow, hpush⟩ := h.open
  obtain ⟨v', w', hr, hown, hg, -, hat⟩ := run_append_own_at (P := Tryd.prog) w B 29 ty 45 i0 (.agg #[.string ⟨#[]⟩, .string ⟨#[]⟩, .slice none 0 0, .int .i64 0]) 4 64 Tryd.underlying29 hi hz0 hz1 hz2 rfl (by decide) mv M.length xs hrow ⟨b, 0, none⟩ 1 1 (encF f u) rfl
    (fun j x hx => by rw [add_zero16, Nat.zero_add, Lib.cell_of_heap hb]; simpa using hx) (encF_one f u hu.ql.one) (by unfold maxLen; omega) (by omega) hB
  exact ⟨v', w', hr, hpush f u v' w' hu hg hown, hg, hat⟩
/-- append in a region that doesn't draw, by its run. -/
theorem wpList_run16 {P : Program} {ops : Array Oper} {rest : List Oper} {o : Oper} {a : Act} {w w' : World} {v : Value} {Q : Exit → Act → World → Prop} (hgd : o.guard = none) (d s : Operand) (t1 t2 : TypeId)
    (ho : o.op = .call { callee := .builtin .append, args := #[d, s], argTypes := #[t1, t2] }) (u x : Value) (hd : a.eval d = u) (hs : a.eval s = x) (hrun : (Builtin.append_ #[t1, t2] o.type #[u, x]).run P w = .ok v w')
    (h : wpList P ops Q rest (a.put o.dst v) w') : wpList P ops Q (o :: rest) a w :=
  wpList_plain hgd fun _ hK => by
    unfold Oper.wp
    simp [execOp, ho, resolve, invoke, builtin, hd, hs, hrun, Result.andThen]
    exact hK _ _ h
end

section
open Go.RowKit Go.Shelf
attribute [local go_sem] Oper.semAt_some

/-- The first k numbers from n - 1 downwards. -/
def descN (n k : Nat) : List Nat := (List.range k).map fun j => n - 1 - j
theorem descN_succ (n k : Nat) : descN n (k + 1) = descN n k ++ [n - 1 - k] := by simp [descN, List.range_succ]
theorem descN_length (n k : Nat) : (descN n k).length = k := by simp [descN]

/-- Two blocks stay as they are. -/
def Kp2 (x y : Nat) (W W' : World) : Prop := W'.heap[x]? = W.heap[x]? ∧ W'.heap[y]? = W.heap[y]?
theorem Kp2.refl (x y : Nat) (W : World) : Kp2 x y W W := ⟨rfl, rfl⟩
theorem Kp2.trans {x y : Nat} {A B C : World} (h : Kp2 x y A B) (k : Kp2 x y B C) : Kp2 x y A C := ⟨k.1.trans h.1, k.2.trans h.2⟩
theorem Kp2.cellx {x y : Nat} {A B : World} (h : Kp2 x y A B) (o : Nat) : B.cell? ⟨x, o, none⟩ = A.cell? ⟨x, o, none⟩ := by unfold World.cell?; simp only [h.1]
theorem Kp2.celly {x y : Nat} {A B : World} (h : Kp2 x y A B) (o : Nat) : B.cell? ⟨y, o, none⟩ = A.cell? ⟨y, o, none⟩ := by unfold World.cell?; simp only [h.2]
theorem Kp2.put {x y : Nat} {w : World} (hx : x < w.heap.size) (hy : y < w.heap.size) (W : World) (l : Nat) (o o' : Obj) (hl : w.heap.size ≤ l) (_ : W.heap[l]? = some o) (_ : o.isCells = false) (_ : o.isWalk = false) : Kp2 x y W (W.putObj l o') :=
  ⟨World.putObj_heap_other (by omega), World.putObj_heap_other (by omega)⟩
set_option maxRecDepth 100000 in
set_option maxHeartbeats 2000000 in
theorem backI1_in (n : Nat) (hn : 1 ≤ n) (l Bs : Nat) (a : Option Addr) (len cap : Nat) (z : Nat → Int) (hlen : len ≤ 1000000) (g o : Nat) (ha : 0 < len → a = some ⟨g, o, none⟩) (J Jx : List Nat → World → Prop)
    (hY : ∀ (pre : List Nat) (x : Nat) (W : World), J pre W → pre.length < len → YieldAt Fence.wide (n - 1) Tryd.prog l #[.int .i64 (x : Int), .int .i64 (z x)] W fun e W' =>
      (e = .returned (.bool true) ∧ J (pre ++ [x]) W' ∧ Kp2 Bs g W W') ∨ (e = .returned (.bool false) ∧ Jx (pre ++ [x]) W'))
    (W : World) (hBs : W.cell? ⟨Bs, 0, none⟩ = some (.slice a len cap)) (hc : ∀ j, j < len → W.cell? ⟨g, o + j, none⟩ = some (.int .i64 (z j))) (h0 : J [] W) :
    CallsIn Fence.wide n Tryd.prog 60 #[.func (.yield l) #[] #[], .pointer (some ⟨Bs, 0, none⟩)] W fun e W' => (∃ v, e = .returned v) ∧
      ((∃ ys, ys = descN len len ∧ J ys W') ∨ (∃ pre, (∃ k, k ≤ len ∧ pre = descN len k) ∧ Jx pre W')) := by
  refine callsIn_of_wp Tryd.func60 rfl trivial ?_ rfl
  simp only [Tryd.ntmps60, List.size_toArray, List.length_cons, List.length_nil, Nat.reduceAdd, Nat.reduceSub, Array.replicate_succ, Array.replicate_zero, List.push_toArray, List.append_toArray, List.nil_append, List.cons_append]
  have hl1 : (len : Int) ≤ 1000000 := by omega
  gi_wp2
  gi_loopw [3] (fun i wr => ∃ m : Nat, m ≤ len ∧ i = .int .i64 ((m : Int) - 1) ∧ J (descN len (len - m)) wr ∧ Kp2 Bs g W wr)
    (fun i _ => (intOf i + 1).toNat)
  case atStart => exact ⟨len, Nat.le_refl _, rfl, by rw [Nat.sub_self]; exact h0, Kp2.refl _ _ _⟩
  case round =>
    obtain ⟨m, hm, rfl, hJs, hnx⟩ := hrel
    have hbs := (hnx.cellx 0).trans hBs
    by_cases hlt : 0 < m
    · obtain ⟨m1, hm1⟩ : ∃ m1 : Nat, m = m1 + 1 := ⟨m - 1, by omega⟩
      have e1 : (m : Int) - 1 = (m1 : Int) := by omega
      obtain rfl := ha (by omega)
      obtain ⟨fn, tmps, assign, body, hy, hR⟩ := hY _ m1 wr hJs (by rw [descN_length]; omega)
      have hcx' := (hnx.celly (o + m1)).trans (hc m1 (by omega))
      have hd : descN len (len - m) ++ [m1] = descN len (len - m1) := by
        rw [show len - m1 = len - m + 1 by omega, descN_succ, show len - 1 - (len - m) = m1 by omega]
      rw [hd] at hR
      have i1 : (0 : Int) ≤ (m1 : Int) := by omega
      have i2 : (m1 : Int) < (len : Int) := by omega
      rw [e1]
      generalize z m1 = zm at *
      gi_wp2
      refine hR.mono ?_
      rintro e W3 (⟨rfl, hJ3, hk3⟩ | ⟨rfl, hJx3⟩)
      · gi_wp2
        go_roundw
        case rel => exact ⟨m1, by omega, rfl, hJ3, hnx.trans hk3⟩
        case measure => simp [intOf]
      · gi_wp2
        refine bodyPost_ret (results_none rfl _ _ _) rfl ?_
        exact ⟨⟨_, rfl⟩, .inr ⟨_, ⟨len - m1, by omega, rfl⟩, hJx3⟩⟩
    · obtain rfl : m = 0 := by omega
      have e1 : ((0 : Nat) : Int) - 1 = -1 := rfl
      rw [e1]
      rw [Nat.sub_zero] at hJs
      gi_wp2
      go_end0
      exact ⟨⟨_, rfl⟩, .inl ⟨_, rfl, hJs⟩⟩
/-- slices.Backward of integers: its box and its iterator. -/
theorem backI_in (n : Nat) (a : Option Addr) (len cap : Nat) (w : World) :
    CallsIn Fence.wide n Tryd.prog 48 #[.slice a len cap] w fun e w' => e = .returned (.func (.func 60) #[] #[.pointer (some ⟨w.heap.size, 0, none⟩)]) ∧ w' = w.alloc (.cells #[.slice a len cap] 34) := by
  refine callsIn_of_wp Tryd.func48 rfl trivial ?_ rfl
  simp only [Tryd.ntmps48, List.size_toArray, List.length_cons, List.length_nil, Nat.reduceAdd, Nat.reduceSub, Array.replicate_succ, Array.replicate_zero, List.push_toArray, List.append_toArray, List.nil_append, List.cons_append]
  gi_wp2
  go_ret
  exact ⟨rfl, rfl⟩
theorem backI_stops (n : Nat) (hn : 1 ≤ n) (Bs : Nat) (a : Option Addr) (len cap : Nat) (z : Nat → Int) (hlen : len ≤ 1000000) (g o : Nat) (w : World) (ha : 0 < len → a = some ⟨g, o, none⟩) (hg : 0 < len → g < w.heap.size) (hBs : w.cell? ⟨Bs, 0, none⟩ = some (.slice a len cap)) (hBl : Bs < w.heap.size)
    (hc : ∀ j, j < len → w.cell? ⟨g, o + j, none⟩ = some (.int .i64 (z j))) :
    SeqStopsK Fence.wide n Tryd.prog 60 #[.pointer (some ⟨Bs, 0, none⟩)] (fun x : Nat => #[Value.int .i64 (x : Int), Value.int .i64 (z x)]) (Kp2 Bs g) (fun ys => ys = descN len len) (fun pre => ∃ k, k ≤ len ∧ pre = descN len k) len w := fun l J Jx W hW _ _ hY h0 =>
  backI1_in n hn l Bs a len cap z hlen g o ha J Jx hY W ((hW.cell (p := ⟨Bs, 0, none⟩) hBl).trans hBs) (fun j hj => (hW.cell (p := ⟨g, o + j, none⟩) (hg (by omega))).trans (hc j hj)) h0
end

section
open Go.RowKit Go.Shelf
attribute [local go_sem] Oper.semAt_some

set_option maxRecDepth 100000 in
set_option maxHeartbeats 2000000 in
theorem backF1_in (n : Nat) (hn : 1 ≤ n) (l Bs n₀ : Nat) (a : Option Addr) (len cap : Nat) (t0 t1 t2 t3 : Nat → Value) (hlen : len ≤ 1000000) (g o : Nat) (ha : 0 < len → a = some ⟨g, o, none⟩) (hb : 0 < len → g < n₀) (J Jx : List Nat → World → Prop)
    (hY : ∀ (pre : List Nat) (x : Nat) (W : World), J pre W → pre.length < len → YieldAt Fence.wide (n - 1) Tryd.prog l #[.int .i64 (x : Int), .agg #[t0 x, t1 x, t2 x, t3 x]] W fun e W' =>
      (e = .returned (.bool true) ∧ J (pre ++ [x]) W' ∧ Below n₀ W W') ∨ (e = .returned (.bool false) ∧ Jx (pre ++ [x]) W'))
    (W : World) (hBs : W.cell? ⟨Bs, 0, none⟩ = some (.slice a len cap)) (hBl : Bs < n₀) (hc : ∀ j, j < len → W.cell? ⟨g, o + j * 4, none⟩ = some (t0 j) ∧ W.cell? ⟨g, o + j * 4 + 1, none⟩ = some (t1 j) ∧ W.cell? ⟨g, o + j * 4 + 2, none⟩ = some (t2 j) ∧ W.cell? ⟨g, o + j * 4 + 3, none⟩ = some (t3 j)) (h0 : J [] W) :
    CallsIn Fence.wide n Tryd.prog 66 #[.func (.yield l) #[] #[], .pointer (some ⟨Bs, 0, none⟩)] W fun e W' => (∃ v, e = .returned v) ∧
      ((∃ ys, ys = descN len len ∧ J ys W') ∨ (∃ pre, (∃ k, k ≤ len ∧ pre = descN len k) ∧ Jx pre W')) := by
  refine callsIn_of_wp Tryd.func66 rfl trivial ?_ rfl
  simp only [Tryd.ntmps66, List.size_toArray, List.length_cons, List.length_nil, Nat.reduceAdd, Nat.reduceSub, Array.replicate_succ, Array.replicate_zero, List.push_toArray, List.append_toArray, List.nil_append, List.cons_append]
  have hl1 : (len : Int) ≤ 1000000 := by omega
  gi_wp2
  gi_loopw [3] (fun i wr => ∃ m : Nat, m ≤ len ∧ i = .int .i64 ((m : Int) - 1) ∧ J (descN len (len - m)) wr ∧ Below n₀ W wr)
    (fun i _ => (intOf i + 1).toNat)
  case atStart => exact ⟨len, Nat.le_refl _, rfl, by rw [Nat.sub_self]; exact h0, Below.refl _ _⟩
  case round =>
    obtain ⟨m, hm, rfl, hJs, hnx⟩ := hrel
    have hbs := (hnx.cell (p := ⟨Bs, 0, none⟩) hBl).trans hBs
    by_cases hlt : 0 < m
    · obtain ⟨m1, hm1⟩ : ∃ m1 : Nat, m = m1 + 1 := ⟨m - 1, by omega⟩
      have e1 : (m : Int) - 1 = (m1 : Int) := by omega
      obtain rfl := ha (by omega)
      obtain ⟨fn, tmps, assign, body, hy, hR⟩ := hY _ m1 wr hJs (by rw [descN_length]; omega)
      obtain ⟨q0, q1, q2, q3⟩ := hc m1 (by omega)
      have c0 := (hnx.cell (p := ⟨g, o + m1 * 4, none⟩) (hb (by omega))).trans q0
      have c1 := (hnx.cell (p := ⟨g, o + m1 * 4 + 1, none⟩) (hb (by omega))).trans q1
      have c2 := (hnx.cell (p := ⟨g, o + m1 * 4 + 2, none⟩) (hb (by omega))).trans q2
      have c3 := (hnx.cell (p := ⟨g, o + m1 * 4 + 3, none⟩) (hb (by omega))).trans q3
      clear q0 q1 q2 q3
      have hd : descN len (len - m) ++ [m1] = descN len (len - m1) := by
        rw [show len - m1 = len - m + 1 by omega, descN_succ, show len - 1 - (len - m) = m1 by omega]
      rw [hd] at hR
      have i1 : (0 : Int) ≤ (m1 : Int) := by omega
      have i2 : (m1 : Int) < (len : Int) := by omega
      rw [e1]
      generalize t0 m1 = y0 at *
      generalize t1 m1 = y1 at *
      generalize t2 m1 = y2 at *
      generalize t3 m1 = y3 at *
      gi_wp2
      refine hR.mono ?_
      rintro e W3 (⟨rfl, hJ3, hk3⟩ | ⟨rfl, hJx3⟩)
      · gi_wp2
        go_roundw
        case rel => exact ⟨m1, by omega, rfl, hJ3, hnx.trans hk3⟩
        case measure => simp [intOf]
      · gi_wp2
        refine bodyPost_ret (results_none rfl _ _ _) rfl ?_
        exact ⟨⟨_, rfl⟩, .inr ⟨_, ⟨len - m1, by omega, rfl⟩, hJx3⟩⟩
    · obtain rfl : m = 0 := by omega
      have e1 : ((0 : Nat) : Int) - 1 = -1 := rfl
      rw [e1]
      rw [Nat.sub_zero] at hJs
      gi_wp2
      go_end0
      exact ⟨⟨_, rfl⟩, .inl ⟨_, rfl, hJs⟩⟩
/-- slices.Backward of integers: its box and its iterator. -/
theorem backF_in (n : Nat) (a : Option Addr) (len cap : Nat) (w : World) :
    CallsIn Fence.wide n Tryd.prog 61 #[.slice a len cap] w fun e w' => e = .returned (.func (.func 66) #[] #[.pointer (some ⟨w.heap.size, 0, none⟩)]) ∧ w' = w.alloc (.cells #[.slice a len cap] 29) := by
  refine callsIn_of_wp Tryd.func61 rfl trivial ?_ rfl
  simp only [Tryd.ntmps61, List.size_toArray, List.length_cons, List.length_nil, Nat.reduceAdd, Nat.reduceSub, Array.replicate_succ, Array.replicate_zero, List.push_toArray, List.append_toArray, List.nil_append, List.cons_append]
  gi_wp2
  go_ret
  exact ⟨rfl, rfl⟩
theorem backF_stops (n : Nat) (hn : 1 ≤ n) (Bs n₀ : Nat) (a : Option Addr) (len cap : Nat) (t0 t1 t2 t3 : Nat → Value) (hlen : len ≤ 1000000) (g o : Nat) (w : World) (ha : 0 < len → a = some ⟨g, o, none⟩) (hb : 0 < len → g < n₀) (hBs : w.cell? ⟨Bs, 0, none⟩ = some (.slice a len cap)) (hBl : Bs < n₀) (hn₀ : n₀ ≤ w.heap.size)
    (hc : ∀ j, j < len → w.cell? ⟨g, o + j * 4, none⟩ = some (t0 j) ∧ w.cell? ⟨g, o + j * 4 + 1, none⟩ = some (t1 j) ∧ w.cell? ⟨g, o + j * 4 + 2, none⟩ = some (t2 j) ∧ w.cell? ⟨g, o + j * 4 + 3, none⟩ = some (t3 j)) :
    SeqStopsK Fence.wide n Tryd.prog 66 #[.pointer (some ⟨Bs, 0, none⟩)] (fun x : Nat => #[Value.int .i64 (x : Int), Value.agg #[t0 x, t1 x, t2 x, t3 x]]) (Below n₀) (fun ys => ys = descN len len) (fun pre => ∃ k, k ≤ len ∧ pre = descN len k) len w := fun l J Jx W hW _ _ hY h0 =>
  backF1_in n hn l Bs n₀ a len cap t0 t1 t2 t3 hlen g o ha hb J Jx hY W ((hW.cell (p := ⟨Bs, 0, none⟩) (by show Bs < _; omega)).trans hBs) hBl (fun j hj => by
    have hg : g < w.heap.size := Nat.lt_of_lt_of_le (hb (by omega)) hn₀
    obtain ⟨q0, q1, q2, q3⟩ := hc j hj
    exact ⟨(hW.cell (p := ⟨g, o + j * 4, none⟩) hg).trans q0, (hW.cell (p := ⟨g, o + j * 4 + 1, none⟩) hg).trans q1, (hW.cell (p := ⟨g, o + j * 4 + 2, none⟩) hg).trans q2, (hW.cell (p := ⟨g, o + j * 4 + 3, none⟩) hg).trans q3⟩) h0
end

end Go.Proofs.YtceneblmllpdnaaDoor
