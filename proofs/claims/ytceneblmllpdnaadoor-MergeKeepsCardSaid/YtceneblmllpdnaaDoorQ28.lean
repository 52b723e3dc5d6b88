/- Merged: DL16. -/
import Derived.Test.YtceneblmllpdnaaDoorQ23
import Derived.Laws.CopyOwn
import Derived.Laws.IdiomCopy
import Derived.Deep.RegionLaw
namespace Go.Proofs.YtceneblmllpdnaaDoor

section
open Go.RowKit Go.PlainAid
theorem heap_setCells_at {g : Nat} {t : TypeId} {fr : Nat × Nat} : ∀ (zs : List Value) (o : Nat) (w : World) (cs : List Value), w.heap[g]? = some (.cells cs.toArray t fr) → o + zs.length ≤ cs.length → (w.setCells g o zs).heap[g]? = some (.cells (splice cs o zs).toArray t fr)
  | [], o, w, cs, h, _ => by simpa [splice, World.setCells] using h
  | z :: zs, o, w, cs, h, hl => by
    simp only [List.length_cons] at hl
    have h1 : (w.setCell ⟨g, o, none⟩ z).heap[g]? = some (.cells (cs.set o z).toArray t fr) := by simp [World.setCell, Array.getElem?_modify, h]
    have := heap_setCells_at zs (o + 1) (w.setCell ⟨g, o, none⟩ z) (cs.set o z) h1 (by rw [List.length_set]; omega)
    have e := list_seg_step cs o z zs hl
    unfold splice at this ⊢
    rw [← List.append_assoc, e] at this
    rw [show (z :: zs).length = zs.length + 1 from rfl, ← List.append_assoc]
    exact this
theorem take_splice {α : Type} (cs : List α) (o : Nat) (zs : List α) (h : o + zs.length ≤ cs.length) : (splice cs o zs).take (o + zs.length) = cs.take o ++ zs := by
  unfold splice
  rw [← List.append_assoc]
  exact List.take_left' (by rw [List.length_append, List.length_take]; omega)
theorem take_splice_low {α : Type} (cs : List α) (o k : Nat) (zs : List α) (h : k ≤ o) (hl : o ≤ cs.length) : (splice cs o zs).take k = cs.take k := by
  unfold splice
  rw [List.take_append_of_le_length (by rw [List.length_take]; omega), List.take_take, Nat.min_eq_left h]
/-- A row of fields whose subfields' values have a property. -/
def FRq (Qp : Value → List Sub → Prop) (B : Nat) (v : Value) (L : List Fld) (w : World) : Prop :=
  ∃ us : List Value, us.length = L.length ∧ w.ownsRow B 45 4 v L.length (cellsF L us) ∧ ∀ i, i < L.length → Qp (us.getD i .nilIface) (L.getD i fd0).subs
/-- A row of fields, cell by cell. -/
structure RawF (Qp : Value → List Sub → Prop) (B g cap : Nat) (cs us : List Value) (L : List Fld) (w : World) : Prop where
  ul : us.length = L.length
  hB : B ≤ g
  hg : w.heap[g]? = some (.cells cs.toArray 45 (0, 0))
  hc : L.length ≤ cap
  hm : cap ≤ maxLen
  hl : cs.length = cap * 4
  ht : cs.take (L.length * 4) = cellsF L us
  hq : ∀ i, i < L.length → Qp (us.getD i .nilIface) (L.getD i fd0).subs
theorem FRq.raw {Qp : Value → List Sub → Prop} {B : Nat} {v : Value} {L : List Fld} {w : World} (h : FRq Qp B v L w) (hn : 0 < L.length) : ∃ g cap cs us, v = .slice (some ⟨g, 0, none⟩) L.length cap ∧ RawF Qp B g cap cs us L w := by
  obtain ⟨us, hl, hown, hq⟩ := h
  rcases hown.2 with ⟨rfl, h0⟩ | ⟨g, cap, cur, rfl, hb, hg, hc, hm, hs, ht⟩
  · omega
  · exact ⟨g, cap, cur.toList, us, rfl, hl, hb, by simpa using hg, hc, hm, by simpa using hs, ht, hq⟩
theorem RawF.fr {Qp : Value → List Sub → Prop} {B g cap : Nat} {cs us : List Value} {L : List Fld} {w : World} (h : RawF Qp B g cap cs us L w) : FRq Qp B (.slice (some ⟨g, 0, none⟩) L.length cap) L w :=
  ⟨us, h.ul, ⟨cellsF_length L us h.ul, .inr ⟨g, cap, cs.toArray, rfl, h.hB, h.hg, h.hc, h.hm, by simpa using h.hl, by simpa using h.ht⟩⟩, h.hq⟩
theorem RawF.cell {Qp : Value → List Sub → Prop} {B g cap : Nat} {cs us : List Value} {L : List Fld} {w : World} (h : RawF Qp B g cap cs us L w) (p : Nat) (hp : p < cap * 4) : (w.cell? ⟨g, p, none⟩).isSome = true ∧ w.frozen? ⟨g, p, none⟩ = false := by
  refine ⟨?_, Lib.frozen_of_heap h.hg p⟩
  rw [Lib.cell_of_heap h.hg]
  have : p < cs.length := by rw [h.hl]; exact hp
  simp [this]
theorem cellsF_take : ∀ (L : List Fld) (us : List Value) (k : Nat), us.length = L.length → (cellsF L us).take (k * 4) = cellsF (L.take k) (us.take k)
  | [], us, k, h => by simp [cellsF]
  | f :: s, [], k, h => by simp at h
  | f :: s, x :: xs, 0, h => by simp [cellsF]
  | f :: s, x :: xs, k + 1, h => by
    have ih := cellsF_take s xs k (by simpa using h)
    have e : cellsF (f :: s) (x :: xs) = .string (S f.tag) :: .string (S f.ind) :: x :: .int .i64 f.auth :: cellsF s xs := rfl
    have e2 : cellsF (f :: s.take k) (x :: xs.take k) = .string (S f.tag) :: .string (S f.ind) :: x :: .int .i64 f.auth :: cellsF (s.take k) (xs.take k) := rfl
    rw [List.take_succ_cons, List.take_succ_cons, e2, ← ih, e, show (k + 1) * 4 = k * 4 + 1 + 1 + 1 + 1 by omega]
    rfl
theorem cellsF_drop : ∀ (L : List Fld) (us : List Value) (k : Nat), us.length = L.length → (cellsF L us).drop (k * 4) = cellsF (L.drop k) (us.drop k)
  | [], us, k, h => by simp [cellsF]
  | f :: s, [], k, h => by simp at h
  | f :: s, x :: xs, 0, h => by simp
  | f :: s, x :: xs, k + 1, h => by
    have ih := cellsF_drop s xs k (by simpa using h)
    have e : cellsF (f :: s) (x :: xs) = .string (S f.tag) :: .string (S f.ind) :: x :: .int .i64 f.auth :: cellsF s xs := rfl
    rw [List.drop_succ_cons, List.drop_succ_cons, ← ih, e, show (k + 1) * 4 = k * 4 + 1 + 1 + 1 + 1 by omega]
    rfl
theorem RawF.at {Qp : Value → List Sub → Prop} {B g cap : Nat} {cs us : List Value} {L : List Fld} {w : World} (h : RawF Qp B g cap cs us L w) (p : Nat) (u : Value) (hu : (cellsF L us)[p]? = some u) : w.cell? ⟨g, p, none⟩ = some u := by
  rw [Lib.cell_of_heap h.hg]
  have hp : p < (cellsF L us).length := (List.getElem?_eq_some_iff.1 hu).1
  rw [cellsF_length L us h.ul] at hp
  rw [← h.ht, List.getElem?_take_of_lt hp] at hu
  simpa using hu
theorem addF (g o j : Nat) : (⟨g, o, none⟩ : Addr).add j = ⟨g, o + j, none⟩ := by unfold Addr.add; split <;> simp_all
/-- clear of one field. -/
theorem run_clearF (w : World) (b o c : Nat) (hc : ∀ j, j < 4 → (w.cell? ⟨b, o + j, none⟩).isSome = true) (hf : ∀ j, j < 4 → w.frozen? ⟨b, o + j, none⟩ = false) :
    ∃ zs : List Value, zs.length = 4 ∧ ∀ ty, (Builtin.clear_ #[29] ty #[.slice (some ⟨b, o, none⟩) 1 c]).run Tryd.prog w = .ok (.tuple #[]) (w.setCells b o zs) := by
  obtain ⟨zs, hzs⟩ : ∃ zs, (Builtin.zeroCells #[.string ⟨#[]⟩, .string ⟨#[]⟩, .slice none 0 0, .int .i64 0] 1).toList = zs := ⟨_, rfl⟩
  have hl : zs.length = 4 := by rw [← hzs]; simp [Builtin.zeroCells]
  have hone : ∀ v ∈ zs, v.oneCell' = true := by
    intro v hv
    rw [← hzs] at hv
    simp only [Builtin.zeroCells, Array.toList_map, Array.toList_range, List.mem_map] at hv
    obtain ⟨i, _, rfl⟩ := hv
    have : i % 4 = 0 ∨ i % 4 = 1 ∨ i % 4 = 2 ∨ i % 4 = 3 := by omega
    have hs : (#[Value.string ⟨#[]⟩, Value.string ⟨#[]⟩, Value.slice none 0 0, Value.int .i64 0] : Array Value).size = 4 := rfl
    rw [hs]
    rcases this with h | h | h | h <;> rw [h] <;> rfl
  refine ⟨zs, hl, fun ty => ?_⟩
  have hst := run_storeCells_cells (P := Tryd.prog) b o zs 0 w (by simpa [hl] using hc) (by simpa [hl] using hf) hone
  simp only [Nat.add_zero] at hst
  have hv : ∀ w, (zeroValue 45).run Tryd.prog w = .ok (.agg #[.string ⟨#[]⟩, .string ⟨#[]⟩, .slice none 0 0, .int .i64 0]) w := fun w => by kernel_rfl
  have hcells : (Value.agg #[.string ⟨#[]⟩, .string ⟨#[]⟩, .slice none 0 0, .int .i64 0]).cells = #[.string ⟨#[]⟩, .string ⟨#[]⟩, .slice none 0 0, .int .i64 0] := by rfl
  simp [Builtin.clear_, run_underlying Tryd.underlying29, hv, hcells, hzs, hst]
theorem setCells_below16 {B g : Nat} (hB : B ≤ g) : ∀ (zs : List Value) (o : Nat) (a w : World), Below B a w → Below B a (w.setCells g o zs)
  | [], _, _, _, h => h
  | z :: zs, o, a, w, h => setCells_below16 hB zs (o + 1) a (w.setCell ⟨g, o, none⟩ z) (h.setCell (p := ⟨g, o, none⟩) hB z)

theorem setCells_other16 {g : Nat} : ∀ (zs : List Value) (o : Nat) (w : World) (i : Nat), i ≠ g → (w.setCells g o zs).heap[i]? = w.heap[i]?
  | [], _, _, _, _ => rfl
  | z :: zs, o, w, i, h => (setCells_other16 zs (o + 1) (w.setCell ⟨g, o, none⟩ z) i h).trans (heap_setn _ _ _ _ h)
theorem setCells_size16 {g : Nat} : ∀ (zs : List Value) (o : Nat) (w : World), (w.setCells g o zs).heap.size = w.heap.size
  | [], _, _ => rfl
  | z :: zs, o, w => (setCells_size16 zs (o + 1) (w.setCell ⟨g, o, none⟩ z)).trans (by simp [World.setCell])
set_option maxHeartbeats 16000000 in
set_option maxRecDepth 100000 in
theorem fdelq_any (Qp : Value → List Sub → Prop) (hQ1 : ∀ u s, Qp u s → u.oneCell' = true) (B : Nat) (L : List Fld) (v : Value) (w : World) (hfr : FRq Qp B v L w) (k : Nat) (hk : k < L.length) (hs : L.length ≤ 100000) :
    Calls Tryd.prog 50 #[v, .int .i64 (k : Int), .int .i64 ((k : Int) + 1)] w fun e w' => ∃ v', e = .returned v' ∧ FRq Qp B v' (remL L k) w' ∧ Below B w w' ∧ (∀ i, some i ≠ v.ownBlock → w'.heap[i]? = w.heap[i]?) ∧ w'.heap.size = w.heap.size := by
  obtain ⟨g, cap, cs, us, rfl, hr⟩ := hfr.raw (by omega)
  obtain ⟨m, hm⟩ : ∃ m, L.length = k + 1 + m := ⟨L.length - (k + 1), by omega⟩
  have hcap := hr.hc
  have hmax := hr.hm
  unfold maxLen at hmax
  rw [hm] at hcap hs ⊢
  obtain ⟨i0, hi, hz0, hz1, hz2⟩ := info_fld
  have hnews : ((cellsF L us).drop ((k + 1) * 4)).length = m * 4 := by rw [List.length_drop, cellsF_length L us hr.ul, hm]; omega
  -- what lies behind the append
  have hw1 := heap_setCells_at ((cellsF L us).drop ((k + 1) * 4)) (k * 4) w.drew cs (show w.drew.heap[g]? = _ from hr.hg) (by rw [hnews, hr.hl]; omega)
  have hl1 : (splice cs (k * 4) ((cellsF L us).drop ((k + 1) * 4))).length = cap * 4 := by rw [length_splice _ _ _ (by rw [hnews, hr.hl]; omega), hr.hl]
  have ht1 := take_splice cs (k * 4) ((cellsF L us).drop ((k + 1) * 4)) (by rw [hnews, hr.hl]; omega)
  obtain ⟨w1, hw1e⟩ : ∃ w1, w.drew.setCells g (k * 4) ((cellsF L us).drop ((k + 1) * 4)) = w1 := ⟨_, rfl⟩
  rw [hw1e] at hw1
  have hb1 : Below B w w1 := by rw [← hw1e]; exact setCells_below16 hr.hB _ _ _ _ (Below.refl B w).drew
  have hrl : (remL L k).length = k + m := by have := remL_len L k hk; omega
  have R1 : RawF Qp B g cap (splice cs (k * 4) ((cellsF L us).drop ((k + 1) * 4))) (us.take k ++ us.drop (k + 1)) (remL L k) w1 := by
    have hul := hr.ul
    have hlt : (us.take k).length = (L.take k).length := by rw [List.length_take, List.length_take, hul]
    refine ⟨?_, hr.hB, hw1, by rw [hrl]; omega, hr.hm, hl1, ?_, fun i hi => ?_⟩
    · rw [hrl, List.length_append, List.length_take, List.length_drop]; omega
    · rw [hrl, show (k + m) * 4 = k * 4 + ((cellsF L us).drop ((k + 1) * 4)).length by rw [hnews]; omega, ht1]
      unfold remL
      rw [cellsF_app _ _ _ _ hlt, ← cellsF_take L us k hul, ← cellsF_drop L us (k + 1) hul]
      congr 1
      rw [← hr.ht, List.take_take, Nat.min_eq_left (by omega)]
    · unfold remL at hi ⊢
      rw [getD_app, getD_appF]
      rw [List.length_append] at hi
      rw [hlt]
      by_cases h1 : i < (L.take k).length
      · rw [if_pos h1, if_pos h1]
        rw [List.length_take] at h1
        have := hr.hq i (by omega)
        rwa [List.getD_eq_getElem?_getD, List.getD_eq_getElem?_getD, List.getElem?_take_of_lt (by omega), List.getElem?_take_of_lt (by omega), ← List.getD_eq_getElem?_getD, ← List.getD_eq_getElem?_getD]
      · rw [if_neg h1, if_neg h1]
        rw [List.length_take] at h1 hi ⊢
        rw [List.length_drop] at hi
        have := hr.hq (k + 1 + (i - min k L.length)) (by omega)
        rwa [List.getD_eq_getElem?_getD, List.getD_eq_getElem?_getD, List.getElem?_drop, List.getElem?_drop, ← List.getD_eq_getElem?_getD, ← List.getD_eq_getElem?_getD]
  obtain ⟨zs, hzl, hrun⟩ := run_clearF w1 g ((k + m) * 4) (cap - (k + m)) (fun j hj => (R1.cell _ (by omega)).1) (fun j hj => (R1.cell _ (by omega)).2)
  have hw2 := heap_setCells_at zs ((k + m) * 4) w1 _ hw1 (by rw [hzl, hl1]; omega)
  have R2 : RawF Qp B g cap (splice (splice cs (k * 4) ((cellsF L us).drop ((k + 1) * 4))) ((k + m) * 4) zs) (us.take k ++ us.drop (k + 1)) (remL L k) (w1.setCells g ((k + m) * 4) zs) := by
    refine ⟨R1.ul, R1.hB, hw2, R1.hc, R1.hm, ?_, ?_, R1.hq⟩
    · rw [length_splice _ _ _ (by rw [hzl, hl1]; omega), hl1]
    · rw [take_splice_low _ _ _ _ (by rw [hrl]; exact Nat.le_refl _) (by rw [hl1]; omega)]
      exact R1.ht
  have hfin := R2.fr
  rw [hrl] at hfin
  have Hfin := Lib.hid hfin
  have Hb2 := Lib.hid (setCells_below16 hr.hB zs ((k + m) * 4) w w1 hb1)
  have Ho2 : RowKit.Hid ((∀ i, some i ≠ (Value.slice (some ⟨g, 0, none⟩) (k + 1 + m) cap).ownBlock → (w1.setCells g ((k + m) * 4) zs).heap[i]? = w.heap[i]?) ∧ (w1.setCells g ((k + m) * 4) zs).heap.size = w.heap.size) := by
    refine ⟨fun i hi => ?_, ?_⟩
    · have hne : i ≠ g := fun e => hi (by rw [e]; rfl)
      rw [setCells_other16 _ _ _ _ hne, ← hw1e, setCells_other16 _ _ _ _ hne]
      rfl
    · rw [setCells_size16, ← hw1e, setCells_size16]
      rfl
  have hone : ∀ u ∈ (cellsF L us).drop ((k + 1) * 4), u.oneCell' = true := fun u hu => cellsF_one L us (fun x hx => by
    obtain ⟨i, hi, rfl⟩ := List.mem_iff_getElem.1 hx
    have := hQ1 _ _ (hr.hq i (by rw [← hr.ul]; exact hi))
    rwa [List.getD_eq_getElem?_getD, List.getElem?_eq_getElem hi] at this) u (List.mem_of_mem_drop hu)
  have hcell : ∀ ad : Addr, (0 < m → ad = ⟨g, (k + 1) * 4, none⟩) → ∀ j u, ((cellsF L us).drop ((k + 1) * 4))[j]? = some u → w.drew.cell? (ad.add j) = some u := by
    intro ad hor j u hj
    have hjl := (List.getElem?_eq_some_iff.1 hj).1
    rw [hnews] at hjl
    obtain rfl := hor (by omega)
    rw [addF]
    have := hr.at ((k + 1) * 4 + j) u (by rw [List.getElem?_drop] at hj; exact hj)
    exact this
  have hspare : ∀ j, j < ((cellsF L us).drop ((k + 1) * 4)).length → (w.drew.cell? ⟨g, 0 + k * 4 + j, none⟩).isSome = true ∧ w.drew.frozen? ⟨g, 0 + k * 4 + j, none⟩ = false := by
    intro j hj
    rw [hnews] at hj
    exact hr.cell _ (by omega)
  have HI := Lib.hid hi
  have HZ1 := Lib.hid hz1
  have HNews := Lib.hid hnews
  have HOne := Lib.hid hone
  have HCell := Lib.hid hcell
  have HSpare := Lib.hid hspare
  have HW1 := Lib.hid hw1e
  generalize (cellsF L us).drop ((k + 1) * 4) = news at *
  have c1 : (0 : Int) ≤ (k : Int) := by omega
  have c2 : (k : Int) ≤ (k : Int) + 1 := by omega
  have c3 : (k : Int) + 1 ≤ (k : Int) + 1 + (m : Int) := by omega
  have c4 : (k : Int) + 1 + (m : Int) ≤ (cap : Int) := by omega
  have c5 : (k : Int) ≤ (cap : Int) := by omega
  have c6 : (k : Int) + (m : Int) ≤ (k : Int) + 1 + (m : Int) := by omega
  have c7 : ¬ ((k : Int) = (k : Int) + 1) := by omega
  clear hw1e hw1 hw2 R1 R2 hb1 hfin hl1 ht1 hnews hone hcell hspare hr hfr hi hz0 hz1 hz2
  have p2 : ((k : Int) + 1).toNat = k + 1 := by omega
  have c8 : (0 : Int) ≤ (k : Int) + 1 := by omega
  have p3 : k + 1 + m - (k + 1) = m := by omega
  by_cases hck : cap = k + 1
  · have hm0 : m = 0 := by omega
    subst hm0
    subst hck
    have hrun : ∀ ty, (Builtin.clear_ #[29] ty #[.slice (some ⟨g, k * 4, none⟩) 1 1]).run Tryd.prog w1 = .ok (.tuple #[]) (w1.setCells g (k * 4) zs) := by
      have := hrun
      rw [Nat.add_zero, show k + 1 - k = 1 by omega] at this
      exact this
    go_enter Tryd.func50, Tryd.ntmps50
    go_upto_region 5 with fail
    go_region_law (refine step_append_room rfl (.tmp 22) (.tmp 25) 29 rfl 45 i0 4 Tryd.underlying29 HI.out HZ1.out g 0 k (k + 1) (by simp [Act.eval, Act.put]) ⟨g, 0, none⟩ 0 0 news (by simp [Act.eval, Act.put]) HNews.out (HCell.out _ (by omega)) HOne.out (by omega) HSpare.out ?_)
    all_goals
      rw [HW1.out]
      go_wp2
      go_ret
      exact ⟨_, rfl, Hfin.out, Hb2.out, Ho2.out.1, Ho2.out.2⟩
  · have hrun : ∀ ty, (Builtin.clear_ #[29] ty #[.slice (some ⟨g, (k + m) * 4, none⟩) (k + 1 + m - (k + m)) (cap - (k + m))]).run Tryd.prog w1 = .ok (.tuple #[]) (w1.setCells g ((k + m) * 4) zs) := by
      rw [show k + 1 + m - (k + m) = 1 by omega]
      exact hrun
    go_enter Tryd.func50, Tryd.ntmps50
    go_upto_region 5 with fail
    go_region_law (refine step_append_room rfl (.tmp 22) (.tmp 25) 29 rfl 45 i0 4 Tryd.underlying29 HI.out HZ1.out g 0 k cap (by simp [Act.eval, Act.put]) ⟨g, (k + 1) * 4, none⟩ m (cap - (k + 1)) news (by simp [Act.eval, Act.put]) HNews.out (HCell.out _ (fun _ => rfl)) HOne.out (by omega) HSpare.out ?_)
    all_goals
      rw [HW1.out]
      go_wp2
      go_ret
      exact ⟨_, rfl, Hfin.out, Hb2.out, Ho2.out.1, Ho2.out.2⟩

/-- slices.Delete of one field of such a row. -/
theorem fdelT_any (B : Nat) (L : List Fld) (v : Value) (w : World) (hf : FT B v L w) (k : Nat) (hk : k < L.length) (hs : L.length ≤ 100000) :
    Calls Tryd.prog 50 #[v, .int .i64 (k : Int), .int .i64 ((k : Int) + 1)] w fun e w' => ∃ v', e = .returned v' ∧ FT B v' (remL L k) w' ∧ Below B w w' ∧ (∀ i, some i ≠ v.ownBlock → w'.heap[i]? = w.heap[i]?) ∧ w'.heap.size = w.heap.size := by
  obtain ⟨us, h1, h2, h3⟩ := id hf
  refine (fdelq_any (fun u s => SB B u s w) (fun u s h => h.ql.one) B L v w ⟨us, h1, h2, h3⟩ k hk hs).mono ?_
  rintro e w' ⟨v', rfl, ⟨us', g1, g2, g3⟩, hb, ho, hsz⟩
  refine ⟨v', rfl, ⟨us', g1, g2, fun i hi => own_kept (g3 i hi) (fun b cs _ hc => ho b (hf.ne hc (by decide)))⟩, hb, ho, hsz⟩
end

end Go.Proofs.YtceneblmllpdnaaDoor
