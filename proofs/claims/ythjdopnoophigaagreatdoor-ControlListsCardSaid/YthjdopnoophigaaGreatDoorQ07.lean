/- Merged: US09, QL, R07A, R07B, R07C. -/
import Derived.Test.YthjdopnoophigaaGreatDoorQ06
import Derived.Deep.WholeRow
import Derived.Great.BuildSlice
import Derived.Test.YthjdopnoophigaaGreatDoorQ05
import Derived.Laws.AppendOwn
import Derived.Test.YthjdopnoophigaaGreatDoorQ01
namespace Go.Proofs.YthjdopnoophigaaGreatDoor

section
open Go.RowKit Go.PlainAid
def stdL : List Rul := [
  ⟨[48, 50, 48], true, false, [97, 122], [], [], 0⟩,
  ⟨[48, 50, 50], true, false, [97], [], [], 0⟩,
  ⟨[48, 52, 49], true, false, [97], [], [], 0⟩,
  ⟨[49, 48, 48], false, false, [52, 97, 100], [97], [97], 1⟩,
  ⟨[49, 49, 48], false, false, [97, 98], [97], [97], 2⟩,
  ⟨[50, 52, 53], false, true, [97, 98, 99, 110, 112], [97, 99], [97], 0⟩,
  ⟨[50, 52, 54], true, false, [97, 98], [97], [97], 0⟩,
  ⟨[50, 53, 48], false, false, [97, 98], [], [], 0⟩,
  ⟨[50, 54, 48], true, false, [97, 98, 99], [], [], 0⟩,
  ⟨[50, 54, 52], true, false, [97, 98, 99], [], [], 0⟩,
  ⟨[51, 48, 48], true, false, [97, 98, 99], [], [], 0⟩,
  ⟨[52, 52, 48], true, false, [97, 118], [97], [97], 4⟩,
  ⟨[52, 57, 48], true, false, [97, 118], [97], [97], 0⟩,
  ⟨[53, 48, 48], true, false, [97], [97], [97], 0⟩,
  ⟨[53, 50, 48], true, false, [97], [], [], 0⟩,
  ⟨[54, 48, 48], true, false, [97, 100, 120, 121, 122], [97], [97], 1⟩,
  ⟨[54, 49, 48], true, false, [97, 98, 120, 121, 122], [97], [97], 2⟩,
  ⟨[54, 53, 48], true, false, [97, 120, 121, 122], [97], [97], 3⟩,
  ⟨[54, 53, 49], true, false, [97, 120, 121, 122], [97], [97], 3⟩,
  ⟨[55, 48, 48], true, false, [52, 97, 100], [97], [97], 1⟩,
  ⟨[55, 49, 48], true, false, [97, 98], [97], [97], 2⟩,
  ⟨[55, 55, 54], true, false, [116, 119], [], [], 0⟩,
  ⟨[55, 56, 55], true, false, [116, 119], [], [], 0⟩,
  ⟨[56, 51, 48], true, false, [97, 118], [97], [97], 4⟩,
  ⟨[56, 53, 54], true, false, [117, 122], [], [], 0⟩]
def cellsT : List Rul → List Value
  | [] => []
  | t :: s => [.string (S t.tag), .bool t.rep, .bool t.must, .string (S t.codes), .string (S t.once), .string (S t.needs), .int .i64 t.auth] ++ cellsT s
theorem cellsT_at : ∀ (L : List Rul) (i : Nat), i < L.length → (cellsT L)[i * 7]? = some (.string (S (L.getD i rul0).tag)) ∧ (cellsT L)[i * 7 + 1]? = some (.bool (L.getD i rul0).rep) ∧ (cellsT L)[i * 7 + 2]? = some (.bool (L.getD i rul0).must) ∧
    (cellsT L)[i * 7 + 3]? = some (.string (S (L.getD i rul0).codes)) ∧ (cellsT L)[i * 7 + 4]? = some (.string (S (L.getD i rul0).once)) ∧ (cellsT L)[i * 7 + 5]? = some (.string (S (L.getD i rul0).needs)) ∧ (cellsT L)[i * 7 + 6]? = some (.int .i64 (L.getD i rul0).auth)
  | [], _, h => by cases h
  | a :: s, 0, _ => ⟨rfl, rfl, rfl, rfl, rfl, rfl, rfl⟩
  | a :: s, i + 1, h => by
    have := cellsT_at s i (by simpa using h)
    have e : cellsT (a :: s) = .string (S a.tag) :: .bool a.rep :: .bool a.must :: .string (S a.codes) :: .string (S a.once) :: .string (S a.needs) :: .int .i64 a.auth :: cellsT s := rfl
    rw [e, show (i + 1) * 7 = i * 7 + 1 + 1 + 1 + 1 + 1 + 1 + 1 by omega]
    simp only [List.getElem?_cons_succ]
    exact this
/-- A slice over a whole block of rules. -/
theorem TL.of_block {w : World} {g : Nat} {cs : Array Value} {ty : TypeId} {fr : Nat × Nat} (L : List Rul) (hg : w.heap[g]? = some (.cells cs ty fr)) (hcs : cs.toList = cellsT L) (hm : L.length ≤ maxLen) : TL (.slice (some ⟨g, 0, none⟩) L.length L.length) L w := by
  refine ⟨_, L.length, rfl, Nat.le_refl _, hm, (fun h => by cases h), fun i hi => ⟨g, 0, rfl, (Array.getElem?_eq_some_iff.1 hg).1, ?_⟩⟩
  obtain ⟨h0, h1, h2, h3, h4, h5, h6⟩ := cellsT_at L i hi
  rw [← hcs] at h0 h1 h2 h3 h4 h5 h6
  rw [Nat.zero_add]
  refine ⟨?_, ?_, ?_, ?_, ?_, ?_, ?_⟩ <;> (rw [Lib.cell_of_heap hg, ← Array.getElem?_toList]; assumption)
/-- The array of the standard rules lies in the world. -/
def ST (w : World) : Prop := ∃ cs ty fr, w.heap[0]? = some (.cells cs ty fr) ∧ cs.toList = cellsT stdL
theorem ST.after {w w' : World} (h : ST w) (hb : Below w.heap.size w w') : ST w' := by
  obtain ⟨cs, ty, fr, hg, hc⟩ := h
  exact ⟨cs, ty, fr, (hb.block _ (Array.getElem?_eq_some_iff.1 hg).1).trans hg, hc⟩
theorem cellsT_one : ∀ L : List Rul, ∀ u ∈ cellsT L, u.oneCell' = true
  | [], u, hu => by simp [cellsT] at hu
  | f :: t, u, hu => by
    simp only [cellsT, List.mem_append, List.mem_cons, List.not_mem_nil, or_false] at hu
    rcases hu with (rfl | rfl | rfl | rfl | rfl | rfl | rfl) | hu
    · rfl
    · rfl
    · rfl
    · rfl
    · rfl
    · rfl
    · rfl
    · exact cellsT_one t u hu

theorem infoRul : (Tryz.prog.info? 74).map (fun i => (i.zero, i.size)) = some (some (.agg #[.string ⟨#[]⟩, .bool false, .bool false, .string ⟨#[]⟩, .string ⟨#[]⟩, .string ⟨#[]⟩, .int .i64 0]), 7) := by kernel_rfl
theorem info_rul : ∃ i0, Tryz.prog.info? 74 = some i0 ∧ i0.zero = some (.agg #[.string ⟨#[]⟩, .bool false, .bool false, .string ⟨#[]⟩, .string ⟨#[]⟩, .string ⟨#[]⟩, .int .i64 0]) ∧ i0.size = 7 := by
  obtain ⟨i0, h0, h2⟩ := Option.map_eq_some_iff.1 infoRul
  simp only [Prod.mk.injEq] at h2
  exact ⟨i0, h0, h2.1, h2.2⟩
theorem wpList_load_eq {P : Program} (w : World) {ops : Array Oper} {rest : List Oper} {o : Oper} {a : Act} {Q : Exit → Act → World → Prop} (hg : o.guard = none) (p : Operand) (t : TypeId) (hop : o.op = Op.load t p) (v : Value)
    (hrun : (Instr.loadAt t (a.eval p)).run P w = .ok v w) (hK : wpList P ops Q rest (a.put o.dst v) w) : wpList P ops Q (o :: rest) a w := by
  refine wpList_plain hg fun K' hK' => ?_
  unfold Oper.wp
  simp [execOp, hop, hrun, Result.andThen]
  exact hK' _ _ hK
theorem wpList_store_eq {P : Program} (w w' : World) {ops : Array Oper} {rest : List Oper} {o : Oper} {a : Act} {Q : Exit → Act → World → Prop} (hg : o.guard = none) (p x : Operand) (t : TypeId) (hop : o.op = Op.store t p x)
    (hrun : (Instr.storeAt t (a.eval p) (a.eval x)).run P w = .ok () w') (hK : wpList P ops Q rest (a.put o.dst undef) w') : wpList P ops Q (o :: rest) a w := by
  refine wpList_plain hg fun K' hK' => ?_
  unfold Oper.wp
  simp [execOp, hop, hrun, Result.andThen]
  exact hK' _ _ hK
set_option maxHeartbeats 8000000 in
set_option maxRecDepth 100000 in
theorem uStandard_any (w : World) (hS : ST w) :
    Calls Tryz.prog 50 #[] w fun e w' => ∃ v', e = .returned v' ∧ TL v' stdL w' ∧ Below w.heap.size w w' := by
  obtain ⟨cs, ty, fr, hg, hc⟩ := hS
  have hsz : cs.size = 175 := by
    rw [← Array.length_toList, hc]
    rfl
  obtain ⟨zs, hz, hzn⟩ : ∃ zs : Array Value, (Tryz.prog.info? 109).map (fun i => (i.zero, i.size)) = some (some (.agg zs), 175) ∧ zs.size = 175 := ⟨(cellsT (List.replicate 25 rul0)).toArray, by kernel_rfl, by kernel_rfl⟩
  obtain ⟨hz1, hz2⟩ := zero_of_info hz
  have hload : (Instr.loadAt 109 (.pointer (some ⟨0, 0, none⟩))).run Tryz.prog w = .ok (.agg cs) w := by
    simp only [Instr.loadAt, Instr.sureAddr, Sem.run_bind, Sem.run_pure, Result.andThen]
    exact run_loadVar_row w _ _ _ cs fr _ hg Tryz.underlying109 rfl (by rw [hz2, hsz])
  have hstore := run_storeAt_new (P := Tryz.prog) w 109 zs cs (by rw [hz2, hsz]) (by omega) (by
    rw [Array.all_eq_true_iff_forall_mem]
    intro u hu
    exact cellsT_one stdL u (by rw [← hc]; exact Array.mem_toList_iff.2 hu))
  have hnew : (w.alloc (.cells cs 109)).heap[w.heap.size]? = some (.cells cs 109 (0, 0)) := heap_alloc_new w _
  have HTL := Lib.hid (TL.of_block stdL hnew hc (by unfold maxLen; decide))
  have HB := Lib.hid ((Below.refl w.heap.size w).alloc (Nat.le_refl _) (.cells cs 109))
  clear hg hc hz hz2 hzn hsz hnew
  go_enter Tryz.func50, Tryz.ntmps50
  go_wp2_with (first | (refine wpList_load_eq _ rfl (Operand.global 0) 109 rfl _ hload ?_) | (refine wpList_store_eq _ _ rfl _ _ 109 rfl hstore ?_) | fail)
  go_ret
  exact ⟨_, rfl, HTL.out, HB.out⟩

set_option maxHeartbeats 8000000 in
theorem refrule_any (tg : ByteArray) (rp mu : Bool) (cd oc nd : ByteArray) (au : Int) (w : World) :
    Calls Tryz.prog 95 #[.string tg, .bool rp, .bool mu, .string cd, .string oc, .string nd, .int .i64 au] w fun e w' => e = .returned (.agg #[.string tg, .bool rp, .bool mu, .string cd, .string oc, .string nd, .int .i64 au]) ∧ Below w.heap.size w w' := by
  have hb := (Below.refl w.heap.size w).alloc (Nat.le_refl _) (.cells #[.string tg, .bool rp, .bool mu, .string cd, .string oc, .string nd, .int .i64 au] 74)
  go_enter Tryz.func95, Tryz.ntmps95
  go_wp2
  refine bodyPost_ret (results_cell_row rfl _ _ w.heap.size _ _ _ _ rfl (heap_alloc_new w _) Tryz.underlying74 rfl (by kernel_rfl)) rfl ?_
  exact ⟨rfl, hb⟩

set_option maxHeartbeats 16000000 in
set_option maxRecDepth 100000 in
theorem refStandard_any (w : World) :
    Calls Tryz.prog 70 #[] w fun e w' => ∃ v', e = .returned v' ∧ TL v' stdL w' ∧ Below w.heap.size w w' := by
  have cR := Lib.hid (fun tg rp mu cd oc nd au W => refrule_any tg rp mu cd oc nd au W)
  have b0 := Below.refl w.heap.size w
  go_enter Tryz.func70, Tryz.ntmps70
  go_wp2_with fail
  refine (cR.out ⟨#[48, 50, 48]⟩ true false ⟨#[97, 122]⟩ ⟨#[]⟩ ⟨#[]⟩ 0 _).mono ?_
  rintro e w1 ⟨rfl, d⟩
  have b1 := b0.trans (d.mono b0.size)
  clear d b0
  go_wp2_with fail
  refine (cR.out ⟨#[48, 50, 50]⟩ true false ⟨#[97]⟩ ⟨#[]⟩ ⟨#[]⟩ 0 _).mono ?_
  rintro e w2 ⟨rfl, d⟩
  have b2 := b1.trans (d.mono b1.size)
  clear d b1
  go_wp2_with fail
  refine (cR.out ⟨#[48, 52, 49]⟩ true false ⟨#[97]⟩ ⟨#[]⟩ ⟨#[]⟩ 0 _).mono ?_
  rintro e w3 ⟨rfl, d⟩
  have b3 := b2.trans (d.mono b2.size)
  clear d b2
  go_wp2_with fail
  refine (cR.out ⟨#[49, 48, 48]⟩ false false ⟨#[52, 97, 100]⟩ ⟨#[97]⟩ ⟨#[97]⟩ 1 _).mono ?_
  rintro e w4 ⟨rfl, d⟩
  have b4 := b3.trans (d.mono b3.size)
  clear d b3
  go_wp2_with fail
  refine (cR.out ⟨#[49, 49, 48]⟩ false false ⟨#[97, 98]⟩ ⟨#[97]⟩ ⟨#[97]⟩ 2 _).mono ?_
  rintro e w5 ⟨rfl, d⟩
  have b5 := b4.trans (d.mono b4.size)
  clear d b4
  go_wp2_with fail
  refine (cR.out ⟨#[50, 52, 53]⟩ false true ⟨#[97, 98, 99, 110, 112]⟩ ⟨#[97, 99]⟩ ⟨#[97]⟩ 0 _).mono ?_
  rintro e w6 ⟨rfl, d⟩
  have b6 := b5.trans (d.mono b5.size)
  clear d b5
  go_wp2_with fail
  refine (cR.out ⟨#[50, 52, 54]⟩ true false ⟨#[97, 98]⟩ ⟨#[97]⟩ ⟨#[97]⟩ 0 _).mono ?_
  rintro e w7 ⟨rfl, d⟩
  have b7 := b6.trans (d.mono b6.size)
  clear d b6
  go_wp2_with fail
  refine (cR.out ⟨#[50, 53, 48]⟩ false false ⟨#[97, 98]⟩ ⟨#[]⟩ ⟨#[]⟩ 0 _).mono ?_
  rintro e w8 ⟨rfl, d⟩
  have b8 := b7.trans (d.mono b7.size)
  clear d b7
  go_wp2_with fail
  refine (cR.out ⟨#[50, 54, 48]⟩ true false ⟨#[97, 98, 99]⟩ ⟨#[]⟩ ⟨#[]⟩ 0 _).mono ?_
  rintro e w9 ⟨rfl, d⟩
  have b9 := b8.trans (d.mono b8.size)
  clear d b8
  go_wp2_with fail
  refine (cR.out ⟨#[50, 54, 52]⟩ true false ⟨#[97, 98, 99]⟩ ⟨#[]⟩ ⟨#[]⟩ 0 _).mono ?_
  rintro e w10 ⟨rfl, d⟩
  have b10 := b9.trans (d.mono b9.size)
  clear d b9
  go_wp2_with fail
  refine (cR.out ⟨#[51, 48, 48]⟩ true false ⟨#[97, 98, 99]⟩ ⟨#[]⟩ ⟨#[]⟩ 0 _).mono ?_
  rintro e w11 ⟨rfl, d⟩
  have b11 := b10.trans (d.mono b10.size)
  clear d b10
  go_wp2_with fail
  refine (cR.out ⟨#[52, 52, 48]⟩ true false ⟨#[97, 118]⟩ ⟨#[97]⟩ ⟨#[97]⟩ 4 _).mono ?_
  rintro e w12 ⟨rfl, d⟩
  have b12 := b11.trans (d.mono b11.size)
  clear d b11
  go_wp2_with fail
  refine (cR.out ⟨#[52, 57, 48]⟩ true false ⟨#[97, 118]⟩ ⟨#[97]⟩ ⟨#[97]⟩ 0 _).mono ?_
  rintro e w13 ⟨rfl, d⟩
  have b13 := b12.trans (d.mono b12.size)
  clear d b12
  go_wp2_with fail
  refine (cR.out ⟨#[53, 48, 48]⟩ true false ⟨#[97]⟩ ⟨#[97]⟩ ⟨#[97]⟩ 0 _).mono ?_
  rintro e w14 ⟨rfl, d⟩
  have b14 := b13.trans (d.mono b13.size)
  clear d b13
  go_wp2_with fail
  refine (cR.out ⟨#[53, 50, 48]⟩ true false ⟨#[97]⟩ ⟨#[]⟩ ⟨#[]⟩ 0 _).mono ?_
  rintro e w15 ⟨rfl, d⟩
  have b15 := b14.trans (d.mono b14.size)
  clear d b14
  go_wp2_with fail
  refine (cR.out ⟨#[54, 48, 48]⟩ true false ⟨#[97, 100, 120, 121, 122]⟩ ⟨#[97]⟩ ⟨#[97]⟩ 1 _).mono ?_
  rintro e w16 ⟨rfl, d⟩
  have b16 := b15.trans (d.mono b15.size)
  clear d b15
  go_wp2_with fail
  refine (cR.out ⟨#[54, 49, 48]⟩ true false ⟨#[97, 98, 120, 121, 122]⟩ ⟨#[97]⟩ ⟨#[97]⟩ 2 _).mono ?_
  rintro e w17 ⟨rfl, d⟩
  have b17 := b16.trans (d.mono b16.size)
  clear d b16
  go_wp2_with fail
  refine (cR.out ⟨#[54, 53, 48]⟩ true false ⟨#[97, 120, 121, 122]⟩ ⟨#[97]⟩ ⟨#[97]⟩ 3 _).mono ?_
  rintro e w18 ⟨rfl, d⟩
  have b18 := b17.trans (d.mono b17.size)
  clear d b17
  go_wp2_with fail
  refine (cR.out ⟨#[54, 53, 49]⟩ true false ⟨#[97, 120, 121, 122]⟩ ⟨#[97]⟩ ⟨#[97]⟩ 3 _).mono ?_
  rintro e w19 ⟨rfl, d⟩
  have b19 := b18.trans (d.mono b18.size)
  clear d b18
  go_wp2_with fail
  refine (cR.out ⟨#[55, 48, 48]⟩ true false ⟨#[52, 97, 100]⟩ ⟨#[97]⟩ ⟨#[97]⟩ 1 _).mono ?_
  rintro e w20 ⟨rfl, d⟩
  have b20 := b19.trans (d.mono b19.size)
  clear d b19
  go_wp2_with fail
  refine (cR.out ⟨#[55, 49, 48]⟩ true false ⟨#[97, 98]⟩ ⟨#[97]⟩ ⟨#[97]⟩ 2 _).mono ?_
  rintro e w21 ⟨rfl, d⟩
  have b21 := b20.trans (d.mono b20.size)
  clear d b20
  go_wp2_with fail
  refine (cR.out ⟨#[55, 55, 54]⟩ true false ⟨#[116, 119]⟩ ⟨#[]⟩ ⟨#[]⟩ 0 _).mono ?_
  rintro e w22 ⟨rfl, d⟩
  have b22 := b21.trans (d.mono b21.size)
  clear d b21
  go_wp2_with fail
  refine (cR.out ⟨#[55, 56, 55]⟩ true false ⟨#[116, 119]⟩ ⟨#[]⟩ ⟨#[]⟩ 0 _).mono ?_
  rintro e w23 ⟨rfl, d⟩
  have b23 := b22.trans (d.mono b22.size)
  clear d b22
  go_wp2_with fail
  refine (cR.out ⟨#[56, 51, 48]⟩ true false ⟨#[97, 118]⟩ ⟨#[97]⟩ ⟨#[97]⟩ 4 _).mono ?_
  rintro e w24 ⟨rfl, d⟩
  have b24 := b23.trans (d.mono b23.size)
  clear d b23
  go_wp2_with fail
  refine (cR.out ⟨#[56, 53, 54]⟩ true false ⟨#[117, 122]⟩ ⟨#[]⟩ ⟨#[]⟩ 0 _).mono ?_
  rintro e w25 ⟨rfl, d⟩
  have b25 := b24.trans (d.mono b24.size)
  clear d b24
  have hnew : (w25.alloc (.cells (cellsT stdL).toArray 74)).heap[w25.heap.size]? = some (.cells (cellsT stdL).toArray 74 (0, 0)) := heap_alloc_new w25 _
  have HTL := Lib.hid (TL.of_block stdL hnew rfl (by unfold maxLen; decide))
  have HB := Lib.hid (b25.alloc b25.size (.cells (cellsT stdL).toArray 74))
  obtain ⟨i0, hi, hz0, hz1⟩ := info_rul
  have HI := Lib.hid hi
  have HZ0 := Lib.hid hz0
  have HZ1 := Lib.hid hz1
  clear hnew b25 cR hi hz0 hz1
  go_wp2_with (first | (refine wpList_buildSlice rfl 77 74 25 _ rfl (cellsT stdL).toArray i0 _ Tryz.underlying77 HI.out HZ0.out (by rw [HZ1.out]; decide) (by rw [HZ1.out]; decide) (by rw [HZ1.out]; kernel_rfl) ?_) | fail)
  go_ret
  exact ⟨_, rfl, HTL.out, HB.out⟩
end

section
open Go.RowKit
/-- A slice of these subfields. -/
def QL (v : Value) (L : List Sub) (w : World) : Prop :=
  ∃ a cap, v = .slice a L.length cap ∧ L.length ≤ cap ∧ cap ≤ maxLen ∧ (a = none → cap = 0) ∧ ∀ i, i < L.length → ∃ g o, a = some ⟨g, o, none⟩ ∧ g < w.heap.size ∧
    w.cell? ⟨g, o + i * 2, none⟩ = some (.int .u8 ((L.getD i sub0).1.toNat : Int)) ∧ w.cell? ⟨g, o + i * 2 + 1, none⟩ = some (.string (S (L.getD i sub0).2))
theorem QL.after {v : Value} {L : List Sub} {w w' : World} (h : QL v L w) (hb : Below w.heap.size w w') : QL v L w' := by
  obtain ⟨a, cap, rfl, hc, hm, hn, hx⟩ := h
  refine ⟨a, cap, rfl, hc, hm, hn, fun i hi => ?_⟩
  obtain ⟨g, o, rfl, hg, h1, h2⟩ := hx i hi
  exact ⟨g, o, rfl, Nat.lt_of_lt_of_le hg hb.size, (hb.cell (p := ⟨g, o + i * 2, none⟩) hg).trans h1, (hb.cell (p := ⟨g, o + i * 2 + 1, none⟩) hg).trans h2⟩
theorem QL.length {v : Value} {L : List Sub} {w : World} (h : QL v L w) : ∃ a cap, v = .slice a L.length cap ∧ L.length ≤ cap ∧ cap ≤ maxLen := by
  obtain ⟨a, cap, h1, h2, h3, _⟩ := h
  exact ⟨a, cap, h1, h2, h3⟩
/-- A field. -/
def FV (f : Fld) (u : Value) : Value := .agg #[.string (S f.tag), .string (S f.ind), u, .int .i64 f.auth]
end

section
open Go.RowKit Go.PlainAid

end

section
open Go.RowKit Go.PlainAid
/-- A text of three digits or so, against 010. -/
theorem less_three (l : List UInt8) (h3 : l.length = 3) (h0 : 48 ≤ (l.getD 0 0).toNat) (h1 : 48 ≤ (l.getD 1 0).toNat) (h2 : 48 ≤ (l.getD 2 0).toNat) : Op.bytesLess l [48, 49, 48] = (decide (l.getD 0 0 = 48) && decide (l.getD 1 0 = 48)) := by
  match l, h3 with
  | [a, b, c], _ =>
    have g0 : 48 ≤ a.toNat := h0
    have g1 : 48 ≤ b.toNat := h1
    have g2 : 48 ≤ c.toNat := h2
    have na : ¬ a < 48 := fun k => by have := UInt8.lt_iff_toNat_lt.1 k; simp at this; omega
    have nc : ¬ c < 48 := fun k => by have := UInt8.lt_iff_toNat_lt.1 k; simp at this; omega
    have nb : (b < 49) ↔ b = 48 := by
      rw [UInt8.lt_iff_toNat_lt, ← UInt8.toNat_inj]
      simp
      omega
    show (decide (a < 48) || (a == 48 && (decide (b < 49) || (b == 49 && (decide (c < 48) || (c == 48 && false)))))) = _
    rw [decide_eq_false na, decide_eq_false nc]
    simp [nb]
    rw [show (a == 48) = decide (a = 48) from rfl]
end

section
open Go.RowKit Go.PlainAid

end

end Go.Proofs.YthjdopnoophigaaGreatDoor
