/- Merged: PF08, PG08, PH08. -/
import Derived.Test.YtcnjjdbpcobolaaGreatDoorQ28
import Derived.Laws.Externs
import Derived.LaidEql
namespace Go.Proofs.YtcnjjdbpcobolaaGreatDoor

section
open Go.RowKit Go.PlainAid
theorem run_append_mk {P : Program} (w : World) (t ti ty e : TypeId) (i : TypeInfo) (z : Value) (ht : P.underlying t = some (.slice e)) (hti : P.underlying ti = some (.int .i64)) (hi : P.info? e = some i) (hz : i.zero = some z)
    (b : Addr) (sLen sCap : Nat) (olds : List Value) (hlo : olds.length = sLen * i.size) (holds : ∀ j v, olds[j]? = some v → w.cell? (b.add j) = some v)
    (nm : Nat) (hnz : nm * i.size ≠ 0) (hg : sCap < sLen + nm) (h63 : sLen + nm ≤ 100000) (hby : i.bytes ≤ 1000) (hfit : Builtin.nextslicecap (sLen + nm) sCap * i.bytes ≤ 281474976710656) :
    (Builtin.append_ #[t, ti] ty #[.slice (some b) sLen sCap, .int .i64 (nm : Int)]).run P w =
      .ok (.slice (some ⟨w.heap.size, 0, none⟩) (sLen + nm) (grownCap w (sLen + nm) sCap e))
        (w.drew.alloc (.cells (olds.toArray ++ Builtin.zeroCells z.cells nm ++ Builtin.zeroCells z.cells (grownCap w (sLen + nm) sCap e - (sLen + nm))) e)) := by
  have hn : ¬ (sLen + nm ≤ sCap) := by omega
  have h63' : ¬ (9223372036854775807 < ((sLen : Int) + (nm : Int))) := by omega
  have h48' : ¬ (281474976710656 < Builtin.nextslicecap (sLen + nm) sCap * i.bytes) := by omega
  have hw : IntKind.i64.wrap (nm : Int) = (nm : Int) := by rw [IntKind.wrap_i64]; omega
  have h0 : ¬ ((nm : Int) < 0) := by omega
  have hb : nm * i.bytes ≤ 100000 * 1000 := Nat.mul_le_mul (by omega) hby
  have hb' : ((nm * i.bytes : Nat) : Int) = (nm : Int) * (i.bytes : Int) := by simp
  have h48 : ¬ (281474976710656 < (nm : Int) * (i.bytes : Int)) := by omega
  have hfo := run_firstCells_some (P := P) w.drew i.size sLen b sLen sCap olds hlo (by simpa using holds)
  simp [Builtin.append_, run_underlying ht, run_underlying hti, sizeOf, typeInfo, zeroValue, hi, hz, Builtin.lenOf, hn, h63', h48', Question.forced, hfo, newRow, grownCap, asInt, asIntOf, hw, h0, h48, hnz]
  go_show

theorem run_copy_st {P : Program} (w : World) (dT sT ty elem : TypeId) (g o dLen dCap : Nat) (a : Addr) (sLen sCap : Nat) (size : Nat) (cs : List Value)
    (hu : P.underlying dT = some (.slice elem)) (hs : (P.info? elem).map (·.size) = some size) (hn : cs.length = Nat.min sLen dLen * size)
    (hsrc : ∀ j v, cs[j]? = some v → w.cell? (a.add j) = some v) (hc : ∀ j, j < cs.length → (w.cell? ⟨g, o + j, none⟩).isSome = true ∧ w.frozen? ⟨g, o + j, none⟩ = false) (h1 : ∀ v ∈ cs, v.oneCell' = true) :
    (Builtin.copy_ #[dT, sT] ty #[.slice (some ⟨g, o, none⟩) dLen dCap, .slice (some a) sLen sCap]).run P w = .ok (goInt (Nat.min sLen dLen)) (w.setCells g o cs) := by
  have hl := run_loadCells_list (P := P) w a cs hsrc
  have hst := run_storeCells_cells (P := P) g o cs 0 w (by simpa using fun j hj => (hc j hj).1) (by simpa using fun j hj => (hc j hj).2) h1
  simp only [Nat.add_zero] at hst
  cases hq : P.info? elem with
  | none => simp [hq] at hs
  | some i =>
    have hi : i.size = size := by simpa [hq] using hs
    simp [Builtin.copy_, run_underlying hu, Builtin.lenOf, Builtin.firstCells, sizeOf, typeInfo, hq, hi, ← hn, hl, hst]

theorem step_copy_st {P : Program} {ops : Array Oper} {o : Oper} {a : Act} {w : World} {K : Act → World → Prop} {Q : Exit → Act → World → Prop} {E : Prop} (hgd : o.guard = none) (d s : Operand) (dT sT : TypeId)
    (ho : o.op = .call { callee := .builtin .copy, args := #[d, s], argTypes := #[dT, sT] }) (elem : TypeId) (hu : P.underlying dT = some (.slice elem)) (size : Nat) (hsz : (P.info? elem).map (·.size) = some size)
    (g off dLen dCap : Nat) (ad : Addr) (sLen sCap : Nat) (hd : a.eval d = .slice (some ⟨g, off, none⟩) dLen dCap) (hs : a.eval s = .slice (some ad) sLen sCap) (cs : List Value) (hn : cs.length = Nat.min sLen dLen * size)
    (hsrc : ∀ j v, cs[j]? = some v → w.cell? (ad.add j) = some v) (hc : ∀ j, j < cs.length → (w.cell? ⟨g, off + j, none⟩).isSome = true ∧ w.frozen? ⟨g, off + j, none⟩ = false) (h1 : ∀ v ∈ cs, v.oneCell' = true)
    (h : K (a.put o.dst (goInt (Nat.min sLen dLen))) (w.setCells g off cs)) :
    if Region.wanted o (yielded ops a.tmps) = true then Oper.wp P o a w K Q else E := by
  have hw : Region.wanted o (yielded ops a.tmps) = true := by simp [Region.wanted, hgd]
  rw [if_pos hw]
  have hrun := run_copy_st (P := P) w dT sT o.type elem g off dLen dCap ad sLen sCap size cs hu hsz hn hsrc hc h1
  unfold Oper.wp
  simp [execOp, ho, resolve, invoke, builtin, hd, hs, hrun, Result.andThen]
  exact h
theorem wpList_copy_st {P : Program} {w : World} {ops : Array Oper} {rest : List Oper} {o : Oper} {a : Act} {Q : Exit → Act → World → Prop} (hgd : o.guard = none) (d s : Operand) (dT sT : TypeId)
    (ho : o.op = .call { callee := .builtin .copy, args := #[d, s], argTypes := #[dT, sT] }) (elem : TypeId) (hu : P.underlying dT = some (.slice elem)) (size : Nat) (hsz : (P.info? elem).map (·.size) = some size)
    (g off dLen dCap : Nat) (ad : Addr) (sLen sCap : Nat) (hd : a.eval d = .slice (some ⟨g, off, none⟩) dLen dCap) (hs : a.eval s = .slice (some ad) sLen sCap) (cs : List Value) (hn : cs.length = Nat.min sLen dLen * size)
    (hsrc : ∀ j v, cs[j]? = some v → w.cell? (ad.add j) = some v) (hc : ∀ j, j < cs.length → (w.cell? ⟨g, off + j, none⟩).isSome = true ∧ w.frozen? ⟨g, off + j, none⟩ = false) (h1 : ∀ v ∈ cs, v.oneCell' = true)
    (h : wpList P ops Q rest (a.put o.dst (goInt (Nat.min sLen dLen))) (w.setCells g off cs)) : wpList P ops Q (o :: rest) a w := by
  refine wpList_plain hgd fun K hK => ?_
  have hrun := run_copy_st (P := P) w dT sT o.type elem g off dLen dCap ad sLen sCap size cs hu hsz hn hsrc hc h1
  unfold Oper.wp
  simp [execOp, ho, resolve, invoke, builtin, hd, hs, hrun, Result.andThen]
  exact hK _ _ h

theorem overlaps_other (a b : Addr) (la lb ca cb : Nat) (w : World) {xa xb : Array Value} {ta tb : TypeId} (hla : la ≠ 0) (hlb : lb ≠ 0) (hne : a.block ≠ b.block) (ha : w.heap[a.block]? = some (.cells xa ta (0, 0))) (hb : w.heap[b.block]? = some (.cells xb tb (0, 0))) :
    (callFunc 74 #[.slice (some a) la ca, .slice (some b) lb cb]).run Tryz.prog w = .ok (.value (.bool false)) w := by
  obtain ⟨i0, hi, hz0, hz1, hz2⟩ := info_fld
  rw [run_callFunc_extern (fn := Tryz.f74) (e := Extern.SlicesOverlaps.overlaps #[22, 22] #[4]) (by kernel_rfl) (by kernel_rfl) (by kernel_rfl) (by kernel_rfl) (by kernel_rfl)]
  have key : ∀ (F : Option Addr → Nat → Nat → Option Addr → Nat → Nat → Sem Value) (G : Array Value → Sem Value) (a : Option Addr) (la ca : Nat) (b : Option Addr) (lb cb : Nat),
      Extern.SlicesOverlaps.overlaps.match_4 (fun _ => Sem Value) #[.slice a la ca, .slice b lb cb] F G = F a la ca b lb cb := fun _ _ _ _ _ _ _ _ => rfl
  delta Extern.SlicesOverlaps.overlaps
  rw [key]
  simp [run_underlying Tryz.underlying22, sizeOf, typeInfo, hi, hz1, hla, hlb, hne, World.frozen?, ha, hb, noView, viewAt, World.shape?, mayBeOne, stringish, Result.andThen]
end

section
open Go.RowKit Go.PlainAid
/-- One field, as it is handed to slices.Insert. -/
structure OneF (V : World) (bv : Nat) (f : Fld) (x : Value) (w : World) : Prop where
  hg : w.heap[bv]? = some (.cells #[.string (S f.tag), .string (S f.ind), x, .int .i64 f.auth] 35 (0, 0))
  hq : QL x f.subs V
theorem OneF.cells {V : World} {bv : Nat} {f : Fld} {x : Value} {w : World} (h : OneF V bv f x w) : ∀ j u, (encF f x)[j]? = some u → w.cell? ((⟨bv, 0, none⟩ : Addr).add j) = some u := by
  intro j u hj
  rw [addF, Nat.zero_add, Lib.cell_of_heap h.hg]
  simpa [encF] using hj
theorem OneF.nw {V : World} {bv : Nat} {f : Fld} {x : Value} {w : World} (h : OneF V bv f x w) : NW V (some ⟨bv, 0, none⟩) [f] w := by
  refine ⟨(fun h => by cases h), fun ad had => ⟨[x], rfl, fun i hi => ?_, fun j u hj => ?_⟩⟩
  · obtain rfl : i = 0 := by simpa using hi
    exact h.hq
  · obtain rfl := Option.some.inj had
    exact h.cells j u (by simpa [cellsF] using hj)
theorem encF_ones (f : Fld) (x : Value) (hx : x.oneCell' = true) : ∀ v ∈ encF f x, v.oneCell' = true := by
  intro v hv
  simp only [encF, List.mem_cons, List.not_mem_nil, or_false] at hv
  rcases hv with rfl | rfl | rfl | rfl
  · rfl
  · rfl
  · exact hx
  · rfl

set_option maxHeartbeats 16000000 in
set_option maxRecDepth 100000 in
theorem finsert_end (V : World) (B : Nat) (L : List Fld) (v : Value) (w : World) (hfr : FR V B v L w) (hB : B ≤ w.heap.size) (f : Fld) (x : Value) (bv : Nat) (ho : OneF V bv f x w) (hs : L.length ≤ 10000) :
    Calls Tryz.prog 45 #[v, .int .i64 (L.length : Int), .slice (some ⟨bv, 0, none⟩) 1 1] w fun e w' => ∃ v', e = .returned v' ∧ FR V B v' (insL L L.length f) w' ∧ Below B w w' := by
  have HFR := Lib.hid hfr
  have HNW := Lib.hid ho.nw
  have HL1 : RowKit.Hid (L.length + [f].length ≤ 100000) := by unfold RowKit.Hid; rw [List.length_singleton]; omega
  obtain ⟨us, _, hown, _⟩ := hfr
  have hcap : ∃ ao cp, v = .slice ao L.length cp ∧ L.length ≤ cp ∧ cp ≤ maxLen := by
    rcases hown.2 with ⟨rfl, h0⟩ | ⟨g, cap, cur, rfl, hb, hg, hc, hm, hs, ht⟩
    · exact ⟨none, 0, by rw [h0], by omega, Nat.zero_le _⟩
    · exact ⟨_, _, rfl, hc, hm⟩
  obtain ⟨ao, cp, rfl, hc, hm⟩ := hcap
  unfold maxLen at hm
  have hins : insL L L.length f = L ++ [f] := by unfold insL; rw [List.take_length, List.drop_length]
  rw [hins]
  obtain ⟨n, hn⟩ : ∃ n, L.length = n := ⟨_, rfl⟩
  rw [hn] at hc hs HFR ⊢
  have HN := Lib.hid hn
  have c1 : (0 : Int) ≤ (n : Int) := by omega
  have c2 : (n : Int) ≤ (n : Int) := by omega
  have HB := Lib.hid hB
  have HFR2 := Lib.hid HFR.out
  clear hn hins hown
  cases ao with
  | none =>
    go_enter Tryz.func45, Tryz.ntmps45
    go_wp2_with (at_builtin; refine append_fr _ rfl _ _ rfl V B _ L rfl HFR.out (some ⟨bv, 0, none⟩) [f] 1 1 rfl rfl (fun h => by cases h) HNW.out HL1.out HB.out B w (Nat.le_refl _) (Below.refl _ _) ?_; intro v2 w2 hfr2 hb2 hB2 hn2)
    have HFR3 := Lib.hid hfr2
    have HB3 := Lib.hid hb2
    obtain ⟨us2, _, hown2, _⟩ := hfr2
    obtain ⟨ao2, cp2, rfl⟩ := own_form hown2
    clear hown2 hb2 hn2
    go_wp2
    go_ret
    exact ⟨_, rfl, HFR3.out, HB3.out⟩
  | some ad =>
    go_enter Tryz.func45, Tryz.ntmps45
    go_wp2_with (at_builtin; refine append_fr _ rfl _ _ rfl V B _ L rfl HFR.out (some ⟨bv, 0, none⟩) [f] 1 1 rfl rfl (fun h => by cases h) HNW.out HL1.out HB.out B w (Nat.le_refl _) (Below.refl _ _) ?_; intro v2 w2 hfr2 hb2 hB2 hn2)
    all_goals
      have HFR3 := Lib.hid hfr2
      have HB3 := Lib.hid hb2
      obtain ⟨us2, _, hown2, _⟩ := hfr2
      obtain ⟨ao2, cp2, rfl⟩ := own_form hown2
      clear hown2 hb2 hn2
      go_wp2
      go_ret
      exact ⟨_, rfl, HFR3.out, HB3.out⟩

theorem ins_cellsF (L : List Fld) (us : List Value) (hul : us.length = L.length) (k : Nat) (f : Fld) (x : Value) :
    (cellsF L us).take (k * 4) ++ (encF f x ++ (cellsF L us).drop (k * 4)) = cellsF (insL L k f) (us.take k ++ x :: us.drop k) := by
  unfold insL
  rw [cellsF_app _ _ _ _ (by rw [List.length_take, List.length_take, hul]), cellsF_take L us k hul, cellsF_drop L us k hul]
  rfl
theorem ins_ql {V : World} {L : List Fld} {us : List Value} (hul : us.length = L.length) (hq : ∀ i, i < L.length → QL (us.getD i .nilIface) (L.getD i fd0).subs V) {k : Nat} (hk : k ≤ L.length) {f : Fld} {x : Value} (hx : QL x f.subs V) :
    ∀ i, i < (insL L k f).length → QL ((us.take k ++ x :: us.drop k).getD i .nilIface) ((insL L k f).getD i fd0).subs V := by
  intro i hi
  rw [insL_len L k f hk] at hi
  unfold insL
  rw [getD_app, getD_appF, List.length_take, List.length_take, hul]
  by_cases h1 : i < min k L.length
  · rw [if_pos h1, if_pos h1]
    have := hq i (by omega)
    rwa [List.getD_eq_getElem?_getD, List.getD_eq_getElem?_getD, List.getElem?_take_of_lt (by omega), List.getElem?_take_of_lt (by omega), ← List.getD_eq_getElem?_getD, ← List.getD_eq_getElem?_getD]
  · rw [if_neg h1, if_neg h1]
    obtain ⟨j, hj⟩ : ∃ j, i - min k L.length = j := ⟨_, rfl⟩
    rw [hj]
    cases j with
    | zero => exact hx
    | succ j =>
      have := hq (k + j) (by omega)
      rw [List.getD_cons_succ, List.getD_cons_succ]
      rwa [List.getD_eq_getElem?_getD, List.getD_eq_getElem?_getD, List.getElem?_drop, List.getElem?_drop, ← List.getD_eq_getElem?_getD, ← List.getD_eq_getElem?_getD]

set_option maxHeartbeats 16000000 in
set_option maxRecDepth 100000 in
theorem finsert_room (V : World) (B : Nat) (L : List Fld) (w : World) (g cap : Nat) (cs us : List Value) (hr : RawF V B g cap cs us L w) (f : Fld) (x : Value) (bv : Nat) (ho : OneF V bv f x w) (hne : bv ≠ g) (hs : L.length ≤ 10000) (k : Nat) (hk : k < L.length) (hroom : L.length + 1 ≤ cap) :
    Calls Tryz.prog 45 #[.slice (some ⟨g, 0, none⟩) L.length cap, .int .i64 (k : Int), .slice (some ⟨bv, 0, none⟩) 1 1] w fun e w' => ∃ v', e = .returned v' ∧ FR V B v' (insL L k f) w' ∧ Below B w w' := by
  obtain ⟨m, hm⟩ : ∃ m, L.length = k + 1 + m := ⟨L.length - (k + 1), by omega⟩
  have hmax := hr.hm
  unfold maxLen at hmax
  have hlc := cellsF_length L us hr.ul
  have hlen : (insL L k f).length = k + 1 + m + 1 := by rw [insL_len L k f (by omega), hm]
  have hnews : ((cellsF L us).drop (k * 4)).length = (m + 1) * 4 := by rw [List.length_drop, hlc, hm]; omega
  have henc : (encF f x).length = 4 := rfl
  have hw1 := heap_setCells_at ((cellsF L us).drop (k * 4)) ((k + 1) * 4) w.drew cs (show w.drew.heap[g]? = _ from hr.hg) (by rw [hnews, hr.hl]; omega)
  have hl1 : (splice cs ((k + 1) * 4) ((cellsF L us).drop (k * 4))).length = cap * 4 := by rw [length_splice _ _ _ (by rw [hnews, hr.hl]; omega), hr.hl]
  obtain ⟨w1, hw1e⟩ : ∃ w1, w.drew.setCells g ((k + 1) * 4) ((cellsF L us).drop (k * 4)) = w1 := ⟨_, rfl⟩
  rw [hw1e] at hw1
  have hb1 : Below B w w1 := by rw [← hw1e]; exact setCells_below hr.hB _ _ _ _ (Below.refl B w).drew
  have hw2 := heap_setCells_at (encF f x) (k * 4) w1 _ hw1 (by rw [henc, hl1]; omega)
  have R2 : RawF V B g cap (splice (splice cs ((k + 1) * 4) ((cellsF L us).drop (k * 4))) (k * 4) (encF f x)) (us.take k ++ x :: us.drop k) (insL L k f) (w1.setCells g (k * 4) (encF f x)) := by
    refine ⟨?_, hr.hB, hw2, by rw [hlen]; omega, hr.hm, by rw [length_splice _ _ _ (by rw [henc, hl1]; omega), hl1], ?_, ins_ql hr.ul hr.hq (by omega) ho.hq⟩
    · rw [hlen, List.length_append, List.length_cons, List.length_take, List.length_drop, hr.ul, hm]; omega
    · rw [← ins_cellsF L us hr.ul k f x, hlen]
      have h1 : (cellsF L us).take (k * 4) = cs.take (k * 4) := by rw [← hr.ht, List.take_take, Nat.min_eq_left (by rw [hm]; omega)]
      have h2 : (splice cs ((k + 1) * 4) ((cellsF L us).drop (k * 4))).take (k * 4) = cs.take (k * 4) := take_splice_low _ _ _ _ (by omega) (by rw [hr.hl]; omega)
      have h3 : (splice cs ((k + 1) * 4) ((cellsF L us).drop (k * 4))).drop (k * 4 + 4) = (cellsF L us).drop (k * 4) ++ cs.drop ((k + 1) * 4 + (m + 1) * 4) := by
        unfold splice
        rw [List.drop_append, List.drop_of_length_le (by rw [List.length_take, hr.hl]; omega), List.nil_append, List.length_take, hr.hl, hnews, show k * 4 + 4 - min ((k + 1) * 4) (cap * 4) = 0 by omega, List.drop_zero]
      conv => lhs; unfold splice
      rw [show List.take (k * 4) (List.take ((k + 1) * 4) cs ++ (List.drop (k * 4) (cellsF L us) ++ List.drop ((k + 1) * 4 + (List.drop (k * 4) (cellsF L us)).length) cs)) = cs.take (k * 4) from h2, henc]
      rw [show List.drop (k * 4 + 4) (List.take ((k + 1) * 4) cs ++ (List.drop (k * 4) (cellsF L us) ++ List.drop ((k + 1) * 4 + (List.drop (k * 4) (cellsF L us)).length) cs)) = _ from h3, ← h1]
      rw [← List.append_assoc (encF f x), ← List.append_assoc]
      refine List.take_left' ?_
      rw [List.length_append, List.length_append, henc, hnews, List.length_take, hlc, hm]
      omega
  have hfin := R2.fr
  rw [hlen] at hfin
  have Hfin := Lib.hid hfin
  have Hb2 := Lib.hid (setCells_below hr.hB (encF f x) (k * 4) w w1 hb1)
  have hone : ∀ u ∈ (cellsF L us).drop (k * 4), u.oneCell' = true := fun u hu => cellsF_one L us (fun x hx => by
    obtain ⟨i, hi, rfl⟩ := List.mem_iff_getElem.1 hx
    have := (hr.hq i (by rw [← hr.ul]; exact hi)).one
    rwa [List.getD_eq_getElem?_getD, List.getElem?_eq_getElem hi] at this) u (List.mem_of_mem_drop hu)
  have hcell : ∀ j u, ((cellsF L us).drop (k * 4))[j]? = some u → w.drew.cell? ((⟨g, k * 4, none⟩ : Addr).add j) = some u := by
    intro j u hj
    rw [addF]
    exact hr.at (k * 4 + j) u (by rw [List.getElem?_drop] at hj; exact hj)
  have hspare : ∀ j, j < ((cellsF L us).drop (k * 4)).length → (w.drew.cell? ⟨g, (k + 1) * 4 + j, none⟩).isSome = true ∧ w.drew.frozen? ⟨g, (k + 1) * 4 + j, none⟩ = false := by
    intro j hj
    rw [hnews] at hj
    exact hr.cell _ (by omega)
  have ho1 : OneF V bv f x w1 := by
    refine ⟨?_, ho.hq⟩
    rw [← hw1e]
    have e : ∀ (zs : List Value) (o : Nat) (w : World), (w.setCells g o zs).heap[bv]? = w.heap[bv]? := by
      intro zs
      induction zs with
      | nil => intro o w; rfl
      | cons z zs ih =>
        intro o w
        show ((w.setCell ⟨g, o, none⟩ z).setCells g (o + 1) zs).heap[bv]? = _
        rw [ih]
        simp [World.setCell, Array.getElem?_modify, Ne.symm hne]
    exact (e _ _ _).trans ho.hg
  have hspare2 : ∀ j, j < (encF f x).length → (w1.cell? ⟨g, k * 4 + j, none⟩).isSome = true ∧ w1.frozen? ⟨g, k * 4 + j, none⟩ = false := by
    intro j hj
    rw [henc] at hj
    refine ⟨?_, Lib.frozen_of_heap hw1 _⟩
    rw [Lib.cell_of_heap hw1]
    have : k * 4 + j < (splice cs ((k + 1) * 4) ((cellsF L us).drop (k * 4))).length := by rw [hl1]; omega
    simp [this]
  have hov : (callFunc 74 #[.slice (some ⟨bv, 0, none⟩) 1 1, .slice (some ⟨g, (k + 1) * 4, none⟩) (k + 1 + m - k) (cap - (k + 1))]).run Tryz.prog w = .ok (.value (.bool false)) w :=
    overlaps_other ⟨bv, 0, none⟩ ⟨g, (k + 1) * 4, none⟩ 1 _ 1 _ w (by omega) (by omega) hne ho.hg hr.hg
  obtain ⟨i0, hi, hz0, hz1, hz2⟩ := info_fld
  have HSz : RowKit.Hid ((Tryz.prog.info? 35).map (·.size) = some 4) := by unfold RowKit.Hid; rw [hi]; simp [hz1]
  have HN1 := Lib.hid hnews
  have HOne := Lib.hid hone
  have HCell := Lib.hid hcell
  have HSpare := Lib.hid hspare
  have HSpare2 := Lib.hid hspare2
  have HO1 := Lib.hid ho1.cells
  have HEnc := Lib.hid henc
  have HEnc1 := Lib.hid (encF_ones f x ho.hq.one)
  have HW1 := Lib.hid hw1e
  rw [hm] at hs hroom ⊢
  generalize (cellsF L us).drop (k * 4) = news at *
  generalize encF f x = enc at *
  have c1 : (0 : Int) ≤ (k : Int) := by omega
  have c2 : (k : Int) ≤ (k : Int) + 1 + (m : Int) := by omega
  have c3 : ((k : Int) == (k : Int) + 1 + (m : Int)) = false := by simp; omega
  have c4 : decide ((k : Int) = (k : Int) + 1 + (m : Int)) = false := decide_eq_false (by omega)
  have c5 : ¬ ((k : Int) = (k : Int) + 1 + (m : Int)) := by omega
  have c6 : decide ((cap : Int) < (k : Int) + 1 + (m : Int) + 1) = false := decide_eq_false (by omega)
  have c7 : ¬ ((cap : Int) < (k : Int) + 1 + (m : Int) + 1) := by omega
  have c8 : (k : Int) + 1 + (m : Int) + 1 ≤ (cap : Int) := by omega
  have c9 : (0 : Int) ≤ (k : Int) + 1 + (m : Int) + 1 := by omega
  have c10 : (k : Int) + 1 ≤ (k : Int) + 1 + (m : Int) + 1 := by omega
  have c11 : (k : Int) ≤ (k : Int) + 1 + (m : Int) + 1 := by omega
  have c12 : (0 : Int) ≤ (k : Int) + 1 := by omega
  have n1 : ((k : Int) + 1).toNat = k + 1 := by omega
  have n2 : ((k : Int) + 1 + (m : Int) + 1).toNat = k + 1 + m + 1 := by omega
  have n3 : ¬ cap = k := by omega
  have n6 : IntKind.i64.wrap ((k : Int) + 1) = (k : Int) + 1 := by rw [IntKind.wrap_i64]; omega
  have n4 : ¬ cap = k + 1 := by omega
  have n5 : ¬ k = k + 1 + m := by omega
  clear hw1e hw1 hw2 R2 hb1 hfin hl1 hnews hone hcell hspare hspare2 hr ho ho1 hi hz0 hz1 hz2 henc
  go_enter Tryz.func45, Tryz.ntmps45
  go_upto_region 15 with fail
  have mn : RowKit.Hid ((m + 1) * 4 = Nat.min (k + 1 + m + 1 - k) (k + 1 + m - k) * 4) := by
    show _ = min _ _ * 4
    omega
  have mn2 : RowKit.Hid (4 = Nat.min 1 (k + 1 + m + 1 - k) * 4) := by
    show _ = min _ _ * 4
    omega
  have hcp : ∀ ty, (Builtin.copy_ #[22, 22] ty #[.slice (some ⟨g, k * 4, none⟩) (k + 1 + m + 1 - k) (cap - k), .slice (some ⟨bv, 0, none⟩) 1 1]).run Tryz.prog w1 = .ok (goInt (Nat.min 1 (k + 1 + m + 1 - k))) (w1.setCells g (k * 4) enc) :=
    fun ty => run_copy_st w1 _ _ ty 35 g (k * 4) _ _ ⟨bv, 0, none⟩ 1 1 4 enc Tryz.underlying22 HSz.out (HEnc.out.trans mn2.out) HO1.out HSpare2.out HEnc1.out
  go_region_law (refine step_copy_st rfl (.tmp 73) (.tmp 76) 22 22 rfl 35 Tryz.underlying22 4 HSz.out g ((k + 1) * 4) (k + 1 + m - k) (cap - (k + 1)) ⟨g, k * 4, none⟩ (k + 1 + m + 1 - k) (cap - k) (by simp [Act.eval, Act.put]) (by simp [Act.eval, Act.put]) news (HN1.out.trans mn.out) HCell.out HSpare.out HOne.out ?_)
  all_goals
    rw [HW1.out]
    go_wp2
    go_ret
    exact ⟨_, rfl, Hfin.out, Hb2.out⟩
end

section
open Go.RowKit Go.PlainAid
theorem grownCap_ok (w : World) (n cap : Nat) (e : TypeId) (h : n ≤ maxLen) : n ≤ grownCap w n cap e ∧ grownCap w n cap e ≤ maxLen := ⟨grownCap_ge w n cap e, grownCap_le_maxLen w n cap e h⟩

theorem wpList_append_run {P : Program} {w w' : World} {v : Value} {ops : Array Oper} {rest : List Oper} {o : Oper} {a : Act} {Q : Exit → Act → World → Prop} (hgd : o.guard = none) (d s : Operand) (t1 t2 : TypeId)
    (ho : o.op = .call { callee := .builtin .append, args := #[d, s], argTypes := #[t1, t2] }) (u x : Value) (hd : a.eval d = u) (hs : a.eval s = x) (hrun : (Builtin.append_ #[t1, t2] o.type #[u, x]).run P w = .ok v w')
    (h : wpList P ops Q rest (a.put o.dst v) w') : wpList P ops Q (o :: rest) a w := by
  refine wpList_plain hgd fun K hK => ?_
  unfold Oper.wp
  simp [execOp, ho, resolve, invoke, builtin, hd, hs, hrun, Result.andThen]
  exact hK _ _ h

set_option maxHeartbeats 16000000 in
set_option maxRecDepth 100000 in
theorem finsert_grow (V : World) (B : Nat) (L : List Fld) (w : World) (g : Nat) (cs us : List Value) (hr : RawF V B g L.length cs us L w) (hB : B ≤ w.heap.size) (f : Fld) (x : Value) (bv : Nat) (ho : OneF V bv f x w) (hs : L.length ≤ 10000) (k : Nat) (hk : k < L.length) :
    Calls Tryz.prog 45 #[.slice (some ⟨g, 0, none⟩) L.length L.length, .int .i64 (k : Int), .slice (some ⟨bv, 0, none⟩) 1 1] w fun e w' => ∃ v', e = .returned v' ∧ FR V B v' (insL L k f) w' ∧ Below B w w' := by
  obtain ⟨m, hm⟩ : ∃ m, L.length = k + 1 + m := ⟨L.length - (k + 1), by omega⟩
  have hlc := cellsF_length L us hr.ul
  have hlen : (insL L k f).length = k + 1 + m + 1 := by rw [insL_len L k f (by omega), hm]
  obtain ⟨i0, hi, hz0, hz1, hz2⟩ := info_fld
  have HSz : RowKit.Hid ((Tryz.prog.info? 35).map (·.size) = some 4) := by unfold RowKit.Hid; rw [hi]; simp [hz1]
  have henc : (encF f x).length = 4 := rfl
  have hnews : ((cellsF L us).drop (k * 4)).length = (m + 1) * 4 := by rw [List.length_drop, hlc, hm]; omega
  have holds : ((cellsF L us).take (k * 4)).length = k * 4 := by rw [List.length_take, hlc, hm]; omega
  have hgr := grownCap_ok w (k + (m + 2)) L.length 35 (by unfold maxLen; omega)
  have hap := run_append_mk (P := Tryz.prog) w 22 3 (z := .agg #[.string ⟨#[]⟩, .string ⟨#[]⟩, .slice none 0 0, .int .i64 0]) (ty := 22) (e := 35) (i := i0) Tryz.underlying22 Tryz.underlying3 hi hz0 ⟨g, 0, none⟩ k L.length ((cellsF L us).take (k * 4)) (by rw [holds, hz1])
    (fun j v hj => by
      rw [addF, Nat.zero_add]
      have hjl := (List.getElem?_eq_some_iff.1 hj).1
      rw [holds] at hjl
      exact hr.at j v (by rw [List.getElem?_take_of_lt hjl] at hj; exact hj)) (m + 2) (by rw [hz1]; omega) (by omega) (by omega) (by omega) (growslice_fits (by omega) (by rw [hz2]; omega))
  generalize grownCap w (k + (m + 2)) L.length 35 = cap at *
  obtain ⟨hge, hmax⟩ := hgr
  obtain ⟨cs0, hcs0⟩ : ∃ cs0 : List Value, cs0 = (cellsF L us).take (k * 4) ++ ((Builtin.zeroCells #[.string ⟨#[]⟩, .string ⟨#[]⟩, .slice none 0 0, .int .i64 0] (m + 2)).toList ++ (Builtin.zeroCells #[.string ⟨#[]⟩, .string ⟨#[]⟩, .slice none 0 0, .int .i64 0] (cap - (k + (m + 2)))).toList) := ⟨_, rfl⟩
  have hl0 : cs0.length = cap * 4 := by
    have hz : ∀ n, (Builtin.zeroCells #[.string ⟨#[]⟩, .string ⟨#[]⟩, .slice none 0 0, .int .i64 0] n).size = n * 4 := fun n => by simp [Builtin.zeroCells]
    rw [hcs0, List.length_append, List.length_append, holds, Array.length_toList, Array.length_toList, hz, hz]
    omega
  have ht0 : cs0.take (k * 4) = (cellsF L us).take (k * 4) := by rw [hcs0]; exact List.take_left' holds
  obtain ⟨w0, hw0⟩ : ∃ w0, w.drew.alloc (.cells cs0.toArray 35) = w0 := ⟨_, rfl⟩
  have hap2 : (Builtin.append_ #[22, 3] 22 #[.slice (some ⟨g, 0, none⟩) k (k + 1 + m), .int .i64 ((k : Int) + 1 + (m : Int) + 1 - (k : Int))]).run Tryz.prog w = .ok (.slice (some ⟨w.heap.size, 0, none⟩) (k + (m + 2)) cap) w0 := by
    rw [hm] at hap
    rw [show (k : Int) + 1 + (m : Int) + 1 - (k : Int) = ((m + 2 : Nat) : Int) by omega]
    rw [hap, ← hw0, hcs0]
    congr 4
    simp [Value.cells]
  have hg0 : w0.heap[w.heap.size]? = some (.cells cs0.toArray 35 (0, 0)) := by rw [← hw0]; exact heap_alloc_new w.drew _
  have hb0 : Below w.heap.size w w0 := by rw [← hw0]; exact (Below.refl w.heap.size w).drew.alloc (Nat.le_refl _) _
  have hgw : g < w.heap.size := (Array.getElem?_eq_some_iff.1 hr.hg).1
  have hbw : bv < w.heap.size := (Array.getElem?_eq_some_iff.1 ho.hg).1
  have hw1 := heap_setCells_at (encF f x) (k * 4) w0 cs0 hg0 (by rw [henc, hl0]; omega)
  have hl1 : (splice cs0 (k * 4) (encF f x)).length = cap * 4 := by rw [length_splice _ _ _ (by rw [henc, hl0]; omega), hl0]
  obtain ⟨w1, hw1e⟩ : ∃ w1, w0.setCells w.heap.size (k * 4) (encF f x) = w1 := ⟨_, rfl⟩
  rw [hw1e] at hw1
  have hb1 : Below w.heap.size w w1 := by rw [← hw1e]; exact setCells_below (Nat.le_refl _) _ _ _ _ hb0
  have hw2 := heap_setCells_at ((cellsF L us).drop (k * 4)) ((k + 1) * 4) w1.drew _ (show w1.drew.heap[w.heap.size]? = _ from hw1) (by rw [hnews, hl1]; omega)
  have R2 : RawF V B w.heap.size cap (splice (splice cs0 (k * 4) (encF f x)) ((k + 1) * 4) ((cellsF L us).drop (k * 4))) (us.take k ++ x :: us.drop k) (insL L k f) (w1.drew.setCells w.heap.size ((k + 1) * 4) ((cellsF L us).drop (k * 4))) := by
    refine ⟨?_, hB, hw2, by rw [hlen]; omega, hmax, by rw [length_splice _ _ _ (by rw [hnews, hl1]; omega), hl1], ?_, ins_ql hr.ul hr.hq (by omega) ho.hq⟩
    · rw [hlen, List.length_append, List.length_cons, List.length_take, List.length_drop, hr.ul, hm]; omega
    · rw [← ins_cellsF L us hr.ul k f x, hlen]
      have h1 := take_splice (splice cs0 (k * 4) (encF f x)) ((k + 1) * 4) ((cellsF L us).drop (k * 4)) (by rw [hnews, hl1]; omega)
      rw [hnews, show (k + 1) * 4 + (m + 1) * 4 = (k + 1 + m + 1) * 4 by omega] at h1
      rw [h1]
      have h2 := take_splice cs0 (k * 4) (encF f x) (by rw [henc, hl0]; omega)
      rw [henc, show k * 4 + 4 = (k + 1) * 4 by omega, ht0] at h2
      rw [h2, List.append_assoc]
  have hfin := R2.fr
  rw [hlen] at hfin
  have Hfin := Lib.hid hfin
  have Hb2 := Lib.hid (((setCells_below (Nat.le_refl _) ((cellsF L us).drop (k * 4)) ((k + 1) * 4) w w1.drew hb1.drew)).mono hB)
  have hone : ∀ u ∈ (cellsF L us).drop (k * 4), u.oneCell' = true := fun u hu => cellsF_one L us (fun x hx => by
    obtain ⟨i, hi, rfl⟩ := List.mem_iff_getElem.1 hx
    have := (hr.hq i (by rw [← hr.ul]; exact hi)).one
    rwa [List.getD_eq_getElem?_getD, List.getElem?_eq_getElem hi] at this) u (List.mem_of_mem_drop hu)
  have hcell : ∀ j u, ((cellsF L us).drop (k * 4))[j]? = some u → w1.drew.cell? ((⟨g, k * 4, none⟩ : Addr).add j) = some u := by
    intro j u hj
    rw [addF]
    exact (hb1.cell (p := ⟨g, k * 4 + j, none⟩) hgw).trans (hr.at (k * 4 + j) u (by rw [List.getElem?_drop] at hj; exact hj))
  have hspare : ∀ j, j < ((cellsF L us).drop (k * 4)).length → (w1.drew.cell? ⟨w.heap.size, (k + 1) * 4 + j, none⟩).isSome = true ∧ w1.drew.frozen? ⟨w.heap.size, (k + 1) * 4 + j, none⟩ = false := by
    intro j hj
    rw [hnews] at hj
    have hw1d : w1.drew.heap[w.heap.size]? = _ := hw1
    refine ⟨?_, Lib.frozen_of_heap hw1d _⟩
    rw [Lib.cell_of_heap hw1d]
    have : (k + 1) * 4 + j < (splice cs0 (k * 4) (encF f x)).length := by rw [hl1]; omega
    simp [this]
  have ho0 : OneF V bv f x w0 := ⟨(hb0.block bv hbw).trans ho.hg, ho.hq⟩
  have hspare2 : ∀ j, j < (encF f x).length → (w0.cell? ⟨w.heap.size, k * 4 + j, none⟩).isSome = true ∧ w0.frozen? ⟨w.heap.size, k * 4 + j, none⟩ = false := by
    intro j hj
    rw [henc] at hj
    refine ⟨?_, Lib.frozen_of_heap hg0 _⟩
    rw [Lib.cell_of_heap hg0]
    have : k * 4 + j < cs0.length := by rw [hl0]; omega
    simp [this]
  have mn : RowKit.Hid ((m + 1) * 4 = Nat.min (k + 1 + m - k) (k + (m + 2) - (k + 1)) * 4) := by
    show _ = min _ _ * 4
    omega
  have mn2 : RowKit.Hid (4 = Nat.min 1 (m + 2) * 4) := by
    show _ = min _ _ * 4
    omega
  have HAp := Lib.hid hap2
  clear hap2
  have HN1 := Lib.hid hnews
  have HOne := Lib.hid hone
  have HCell := Lib.hid hcell
  have HSpare := Lib.hid hspare
  have hcp : ∀ ty, (Builtin.copy_ #[22, 22] ty #[.slice (some ⟨w.heap.size, k * 4, none⟩) (m + 2) (cap - k), .slice (some ⟨bv, 0, none⟩) 1 1]).run Tryz.prog w0 = .ok (goInt (Nat.min 1 (m + 2))) w1 :=
    fun ty => (run_copy_st w0 _ _ ty 35 w.heap.size (k * 4) _ _ ⟨bv, 0, none⟩ 1 1 4 (encF f x) Tryz.underlying22 HSz.out (henc.trans mn2.out) ho0.cells hspare2 (encF_ones f x ho.hq.one)).trans (by rw [hw1e])
  unfold maxLen at hmax
  rw [hm] at hs ⊢
  generalize (cellsF L us).drop (k * 4) = news at *
  generalize encF f x = enc at *
  have c1 : (0 : Int) ≤ (k : Int) := by omega
  have c2 : (k : Int) ≤ (k : Int) + 1 + (m : Int) := by omega
  have c3 : ((k : Int) == (k : Int) + 1 + (m : Int)) = false := by simp; omega
  have c5 : ¬ ((k : Int) = (k : Int) + 1 + (m : Int)) := by omega
  have c6 : decide ((k : Int) + 1 + (m : Int) < (k : Int) + 1 + (m : Int) + 1) = true := decide_eq_true (by omega)
  have c7 : (k : Int) + 1 + (m : Int) < (k : Int) + 1 + (m : Int) + 1 := by omega
  have n5 : ¬ k = k + 1 + m := by omega
  clear hw0 hw1e hw1 hw2 R2 hb0 hb1 hfin hl0 hl1 hnews hone hcell hspare hspare2 hr ho ho0 hi hz0 hz1 hz2 henc hcs0 ht0 hg0 hap holds hlc
  go_enter Tryz.func45, Tryz.ntmps45
  have n4 : ¬ cap = k + 1 := by omega
  have n3 : ¬ cap = k := by omega
  go_upto_region 10 with (at_builtin; go_loud (refine wpList_append_run rfl _ _ 22 3 rfl _ _ rfl rfl HAp.out ?_))
  have c8 : (k : Int) ≤ (k : Int) + ((m : Int) + 2) := by omega
  have c9 : (k : Int) + 1 ≤ (k : Int) + ((m : Int) + 2) := by omega
  have c10 : (0 : Int) ≤ (k : Int) + 1 := by omega
  have n6 : IntKind.i64.wrap ((k : Int) + 1) = (k : Int) + 1 := by rw [IntKind.wrap_i64]; omega
  have n1 : ((k : Int) + 1).toNat = k + 1 := by omega
  have n7 : ¬ k + 1 + m = k := by omega
  go_upto_region 11 with fail
  go_region_law (refine step_copy_st rfl (.tmp 50) (.tmp 53) 22 22 rfl 35 Tryz.underlying22 4 HSz.out w.heap.size ((k + 1) * 4) (k + (m + 2) - (k + 1)) (cap - (k + 1)) ⟨g, k * 4, none⟩ (k + 1 + m - k) (k + 1 + m - k) (by simp [Act.eval, Act.put]) (by simp [Act.eval, Act.put]) news (HN1.out.trans mn.out) HCell.out HSpare.out HOne.out ?_)
  all_goals
    go_wp2
    go_ret
    exact ⟨_, rfl, by rw [show k + (m + 2) = k + 1 + m + 1 by omega]; exact Hfin.out, Hb2.out⟩

/-- slices.Insert of one field into a row of the call's own. -/
theorem finsert_any (V : World) (B : Nat) (L : List Fld) (v : Value) (w : World) (hfr : FR V B v L w) (hB : B ≤ w.heap.size) (f : Fld) (x : Value) (bv : Nat) (ho : OneF V bv f x w) (hne : ∀ g n c, v = .slice (some ⟨g, 0, none⟩) n c → bv ≠ g) (hs : L.length ≤ 10000) (k : Nat) (hk : k ≤ L.length) :
    Calls Tryz.prog 45 #[v, .int .i64 (k : Int), .slice (some ⟨bv, 0, none⟩) 1 1] w fun e w' => ∃ v', e = .returned v' ∧ FR V B v' (insL L k f) w' ∧ Below B w w' := by
  rcases Nat.lt_or_ge k L.length with hlt | hge
  · obtain ⟨g, cap, cs, us, rfl, hr⟩ := hfr.raw (by omega)
    rcases Nat.lt_or_ge L.length cap with hroom | hfull
    · exact finsert_room V B L w g cap cs us hr f x bv ho (hne _ _ _ rfl) hs k hlt hroom
    · obtain rfl : cap = L.length := Nat.le_antisymm hfull hr.hc
      exact finsert_grow V B L w g cs us hr hB f x bv ho hs k hlt
  · obtain rfl : k = L.length := by omega
    exact finsert_end V B L v w hfr hB f x bv ho hs
end

end Go.Proofs.YtcnjjdbpcobolaaGreatDoor
