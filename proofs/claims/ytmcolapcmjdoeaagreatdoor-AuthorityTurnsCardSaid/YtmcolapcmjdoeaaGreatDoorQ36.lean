/- Merged: DI13, II13, QT13. -/
import Derived.Test.YtmcolapcmjdoeaaGreatDoorQ22
import Derived.Test.YtmcolapcmjdoeaaGreatDoorQ30
import Derived.Deep.RegionLaw
import Derived.Test.YtmcolapcmjdoeaaGreatDoorQ33
import Derived.Test.YtmcolapcmjdoeaaGreatDoorQ35
namespace Go.Proofs.YtmcolapcmjdoeaaGreatDoor

section
open Go.RowKit Go.PlainAid
theorem run_clearI (w : World) (b o c : Nat) (hc : ∀ j, j < 1 → (w.cell? ⟨b, o + j, none⟩).isSome = true) (hf : ∀ j, j < 1 → w.frozen? ⟨b, o + j, none⟩ = false) :
    ∃ zs : List Value, zs.length = 1 ∧ ∀ ty, (Builtin.clear_ #[29] ty #[.slice (some ⟨b, o, none⟩) 1 c]).run Tryz.prog w = .ok (.tuple #[]) (w.setCells b o zs) := by
  obtain ⟨zs, hzs⟩ : ∃ zs, (Builtin.zeroCells #[.int .i64 0] 1).toList = zs := ⟨_, rfl⟩
  have hl : zs.length = 1 := by rw [← hzs]; simp [Builtin.zeroCells]
  have hone : ∀ v ∈ zs, v.oneCell' = true := by
    intro v hv
    rw [← hzs] at hv
    simp only [Builtin.zeroCells, Array.toList_map, Array.toList_range, List.mem_map] at hv
    obtain ⟨i, _, rfl⟩ := hv
    have h : i % 1 = 0 := by omega
    have hs : (#[.int .i64 0] : Array Value).size = 1 := rfl
    rw [hs]
    rw [h]
    rfl
  refine ⟨zs, hl, fun ty => ?_⟩
  have hst := run_storeCells_cells (P := Tryz.prog) b o zs 0 w (by simpa [hl] using hc) (by simpa [hl] using hf) hone
  simp only [Nat.add_zero] at hst
  have hv : ∀ w, (zeroValue 3).run Tryz.prog w = .ok (.int .i64 0) w := fun w => by kernel_rfl
  have hcells : (Value.cells (.int .i64 0)) = #[.int .i64 0] := by rfl
  simp [Builtin.clear_, run_underlying Tryz.underlying29, hv, hcells, hzs, hst]
theorem take_spliceI {α : Type} (cs : List α) (o : Nat) (zs : List α) (h : o + zs.length ≤ cs.length) : (splice cs o zs).take (o + zs.length) = cs.take o ++ zs := by
  unfold splice
  rw [← List.append_assoc]
  exact List.take_left' (by rw [List.length_append, List.length_take]; omega)
theorem take_lowI {α : Type} (cs : List α) (o k : Nat) (zs : List α) (h : k ≤ o) (hl : o ≤ cs.length) : (splice cs o zs).take k = cs.take k := by
  unfold splice
  rw [List.take_append_of_le_length (by rw [List.length_take]; omega), List.take_take, Nat.min_eq_left h]
theorem setCells_grownI {g : Nat} (zs : List Value) (o : Nat) (w w1 : World) (h : w.grownBy w1 (some g)) : w.grownBy (w1.setCells g o zs) (some g) := by
  have hb := setCells_below13 (B := 0) (Nat.zero_le g) zs o w1 w1 (Below.refl 0 w1)
  refine ⟨hb.os.trans h.os, hb.tape.trans h.tape, hb.output.trans h.output, Nat.le_trans h.size hb.size, fun k hk hne => ?_⟩
  rw [setCells_other13 (fun e => hne (by rw [e])) zs o w1]
  exact h.block k hk hne

set_option maxHeartbeats 16000000 in
set_option maxRecDepth 100000 in
theorem delI_any (B : Nat) (v : Value) (n k : Nat) (xs : List Value) (w : World) (h : w.ownsRow B 3 1 v n xs) (hk : k < n) (hz : n ≤ 100000) (h1 : ∀ u ∈ xs, u.oneCell' = true) :
    Calls Tryz.prog 78 #[v, .int .i64 (k : Int), .int .i64 ((k : Int) + 1)] w fun e w' => ∃ v', e = .returned v' ∧ w'.ownsRow B 3 1 v' (n - 1) (xs.take (k) ++ xs.drop (k + 1)) ∧ w.grownBy w' v.ownBlock ∧ v'.ownBlock = v.ownBlock := by
  have hxl := h.1
  rcases h.2 with ⟨_, h0⟩ | ⟨g, cap, cur, rfl, hB, hg, hcap, hmax, hcs, htk⟩
  · omega
  obtain ⟨m, hm⟩ : ∃ m, n = k + 1 + m := ⟨n - (k + 1), by omega⟩
  subst hm
  unfold maxLen at hmax
  obtain ⟨cs, hcur⟩ : ∃ cs, cur.toList = cs := ⟨_, rfl⟩
  have hgc : w.heap[g]? = some (.cells cs.toArray 3 (0, 0)) := by rw [hg, ← hcur]
  have hcl : cs.length = cap := by rw [← hcur, Array.length_toList, hcs]; exact Nat.mul_one _
  rw [hcur] at htk
  obtain ⟨i0, hi, hz0, hz1, hz2⟩ := info_int13
  have hnews : (xs.drop (k + 1)).length = m := by rw [List.length_drop, hxl]; omega
  have hw1 := heap_setCells13 (xs.drop (k + 1)) (k) w.drew cs (show w.drew.heap[g]? = _ from hgc) (by rw [hnews, hcl]; omega)
  have hl1 : (splice cs (k) (xs.drop (k + 1))).length = cap := by rw [length_splice _ _ _ (by rw [hnews, hcl]; omega), hcl]
  have ht1 := take_spliceI cs (k) (xs.drop (k + 1)) (by rw [hnews, hcl]; omega)
  obtain ⟨w1, hw1e⟩ : ∃ w1, w.drew.setCells g (k) (xs.drop (k + 1)) = w1 := ⟨_, rfl⟩
  rw [hw1e] at hw1
  have hb1 : w.grownBy w1 (some g) := by rw [← hw1e]; exact setCells_grownI _ _ w w.drew ⟨rfl, rfl, rfl, Nat.le_refl _, fun _ _ _ => rfl⟩
  obtain ⟨zs, hzl, hrun⟩ := run_clearI w1 g (k + m) (cap - (k + m)) (fun j hj => by
      rw [Lib.cell_of_heap hw1]
      have : k + m + j < (splice cs (k) (xs.drop (k + 1))).length := by rw [hl1]; omega
      simp [this]) (fun j hj => Lib.frozen_of_heap hw1 _)
  have hw2 := heap_setCells13 zs (k + m) w1 _ hw1 (by rw [hzl, hl1]; omega)
  have hfin : (w1.setCells g (k + m) zs).ownsRow B 3 1 (.slice (some ⟨g, 0, none⟩) (k + m) cap) (k + m) (xs.take (k) ++ xs.drop (k + 1)) := by
    refine ⟨?_, .inr ⟨g, cap, _, rfl, hB, hw2, by omega, by unfold maxLen; omega, ?_, ?_⟩⟩
    · rw [List.length_append, List.length_take, hnews, hxl]; omega
    · show (splice _ _ _).length = _
      rw [length_splice _ _ _ (by rw [hzl, hl1]; omega), hl1]
      all_goals omega
    · show (splice _ _ _).take _ = _
      rw [Nat.mul_one]
      rw [take_lowI _ _ _ _ (Nat.le_refl _) (by rw [hl1]; omega)]
      have e : k + m = k + (xs.drop (k + 1)).length := by
        have := hnews
        omega
      rw [e, ht1]
      congr 1
      rw [← htk, List.take_take]
      congr 1
      omega
  have Hfin := Lib.hid hfin
  have Hb2 : RowKit.Hid (w.grownBy (w1.setCells g (k + m) zs) (some g)) := setCells_grownI zs _ w w1 hb1
  have hone : ∀ u ∈ xs.drop (k + 1), u.oneCell' = true := fun u hu => h1 u (List.mem_of_mem_drop hu)
  have hcell : ∀ ad : Addr, (0 < m → ad = ⟨g, k + 1, none⟩) → ∀ j u, (xs.drop (k + 1))[j]? = some u → w.drew.cell? (ad.add j) = some u := by
    intro ad hor j u hj
    have hjl := (List.getElem?_eq_some_iff.1 hj).1
    rw [hnews] at hjl
    obtain rfl := hor (by omega)
    have hadd : (⟨g, k + 1, none⟩ : Addr).add j = ⟨g, k + 1 + j, none⟩ := by unfold Addr.add; split <;> simp_all
    rw [hadd]
    show w.cell? _ = _
    rw [Lib.cell_of_heap hgc]
    rw [List.getElem?_drop] at hj
    rw [← htk, List.getElem?_take_of_lt (by omega)] at hj
    simpa using hj
  have hspare : ∀ j, j < (xs.drop (k + 1)).length → (w.drew.cell? ⟨g, 0 + k + j, none⟩).isSome = true ∧ w.drew.frozen? ⟨g, 0 + k + j, none⟩ = false := by
    intro j hj
    rw [hnews] at hj
    refine ⟨?_, Lib.frozen_of_heap (show w.drew.heap[g]? = _ from hgc) _⟩
    show (w.cell? _).isSome = true
    rw [Lib.cell_of_heap hgc]
    have : 0 + k + j < cs.length := by rw [hcl]; omega
    simp only [Nat.zero_add] at this ⊢
    simp [this]
  have HI := Lib.hid hi
  have HZ1 := Lib.hid hz1
  have HNews : RowKit.Hid ((xs.drop (k + 1)).length = m * 1) := by
    unfold RowKit.Hid
    have := hnews
    omega
  have HOne := Lib.hid hone
  have HCell := Lib.hid hcell
  have HSpare : RowKit.Hid (∀ j, j < (xs.drop (k + 1)).length → (w.drew.cell? ⟨g, 0 + k * 1 + j, none⟩).isSome = true ∧ w.drew.frozen? ⟨g, 0 + k * 1 + j, none⟩ = false) := by unfold RowKit.Hid; rw [Nat.mul_one]; exact hspare
  have HW1 := Lib.hid hw1e
  have hkm : k + 1 + m - 1 = k + m := by omega
  rw [hkm]
  generalize xs.take (k) = olds at *
  generalize xs.drop (k + 1) = news at *
  have c1 : (0 : Int) ≤ (k : Int) := by omega
  have c2 : (k : Int) ≤ (k : Int) + 1 := by omega
  have c3 : (k : Int) + 1 ≤ (k : Int) + 1 + (m : Int) := by omega
  have c4 : (k : Int) + 1 + (m : Int) ≤ (cap : Int) := by omega
  have c5 : (k : Int) ≤ (cap : Int) := by omega
  have c6 : (k : Int) + (m : Int) ≤ (k : Int) + 1 + (m : Int) := by omega
  have c7 : ¬ ((k : Int) = (k : Int) + 1) := by omega
  clear hw1e hw1 hw2 hb1 hfin hl1 ht1 hnews hone hcell hspare hi hz0 hz1 hz2 hg hgc hcl htk hcur hcs hxl h h1 hkm
  have p2 : ((k : Int) + 1).toNat = k + 1 := by omega
  have c8 : (0 : Int) ≤ (k : Int) + 1 := by omega
  have p3 : k + 1 + m - (k + 1) = m := by omega
  by_cases hck : cap = k + 1
  · have hm0 : m = 0 := by omega
    subst hm0
    subst hck
    have hrun : ∀ ty, (Builtin.clear_ #[29] ty #[.slice (some ⟨g, k, none⟩) 1 1]).run Tryz.prog w1 = .ok (.tuple #[]) (w1.setCells g (k) zs) := by
      have := hrun
      rw [Nat.add_zero, show k + 1 - k = 1 by omega] at this
      exact this
    go_enter Tryz.func78, Tryz.ntmps78
    go_upto_region 5 with fail
    go_region_law (refine step_append_room rfl (.tmp 22) (.tmp 25) 29 rfl 3 i0 1 Tryz.underlying29 HI.out HZ1.out g 0 k (k + 1) (by simp [Act.eval, Act.put]) ⟨g, 0, none⟩ 0 0 news (by simp [Act.eval, Act.put]) HNews.out (HCell.out _ (by omega)) HOne.out (by omega) HSpare.out ?_)
    all_goals
      rw [HW1.out]
      go_wp2
      go_ret
      exact ⟨_, rfl, Hfin.out, Hb2.out, rfl⟩
  · have hrun : ∀ ty, (Builtin.clear_ #[29] ty #[.slice (some ⟨g, k + m, none⟩) (k + 1 + m - (k + m)) (cap - (k + m))]).run Tryz.prog w1 = .ok (.tuple #[]) (w1.setCells g (k + m) zs) := by
      rw [show k + 1 + m - (k + m) = 1 by omega]
      exact hrun
    go_enter Tryz.func78, Tryz.ntmps78
    go_upto_region 5 with fail
    go_region_law (refine step_append_room rfl (.tmp 22) (.tmp 25) 29 rfl 3 i0 1 Tryz.underlying29 HI.out HZ1.out g 0 k cap (by simp [Act.eval, Act.put]) ⟨g, k + 1, none⟩ m (cap - (k + 1)) news (by simp [Act.eval, Act.put]) HNews.out (HCell.out _ (fun _ => rfl)) HOne.out (by omega) HSpare.out ?_)
    all_goals
      rw [HW1.out]
      go_wp2
      go_ret
      exact ⟨_, rfl, Hfin.out, Hb2.out, rfl⟩
end

section
open Go.RowKit Go.PlainAid
theorem overlapsI (a b : Addr) (la lb ca cb : Nat) (w : World) {xa xb : Array Value} {ta tb : TypeId} (hla : la ≠ 0) (hlb : lb ≠ 0) (hne : a.block ≠ b.block) (ha : w.heap[a.block]? = some (.cells xa ta (0, 0))) (hb : w.heap[b.block]? = some (.cells xb tb (0, 0))) :
    (callFunc 100 #[.slice (some a) la ca, .slice (some b) lb cb]).run Tryz.prog w = .ok (.value (.bool false)) w := by
  obtain ⟨i0, hi, hz0, hz1, hz2⟩ := info_int13
  rw [run_callFunc_extern (fn := Tryz.f100) (e := Extern.SlicesOverlaps.overlaps #[29, 29] #[4]) (by kernel_rfl) (by kernel_rfl) (by kernel_rfl) (by kernel_rfl) (by kernel_rfl)]
  have key : ∀ (F : Option Addr → Nat → Nat → Option Addr → Nat → Nat → Sem Value) (G : Array Value → Sem Value) (a : Option Addr) (la ca : Nat) (b : Option Addr) (lb cb : Nat),
      Extern.SlicesOverlaps.overlaps.match_4 (fun _ => Sem Value) #[.slice a la ca, .slice b lb cb] F G = F a la ca b lb cb := fun _ _ _ _ _ _ _ _ => rfl
  delta Extern.SlicesOverlaps.overlaps
  rw [key]
  simp [run_underlying Tryz.underlying29, sizeOf, typeInfo, hi, hz1, hla, hlb, hne, World.frozen?, ha, hb, noView, viewAt, World.shape?, mayBeOne, stringish, Result.andThen]
theorem enc_cellsI {w : World} {bv : Nat} {enc : List Value} {t : TypeId} (h : w.heap[bv]? = some (.cells enc.toArray t (0, 0))) : ∀ j u, enc[j]? = some u → w.cell? ((⟨bv, 0, none⟩ : Addr).add j) = some u := by
  intro j u hj
  have hadd : (⟨bv, 0, none⟩ : Addr).add j = ⟨bv, j, none⟩ := by unfold Addr.add; split <;> simp_all
  rw [hadd, Lib.cell_of_heap h]
  simpa using hj

set_option maxHeartbeats 16000000 in
set_option maxRecDepth 100000 in
theorem insEndI (B : Nat) (v : Value) (n : Nat) (xs : List Value) (w : World) (h : w.ownsRow B 3 1 v n xs) (hvn : v ≠ .slice none 0 0) (hB : B ≤ w.heap.size) (hz : n ≤ 10000) (enc : List Value) (he : enc.length = 1) (he1 : ∀ u ∈ enc, u.oneCell' = true) (bv : Nat) (hbv : w.heap[bv]? = some (.cells enc.toArray 3 (0, 0))) :
    Calls Tryz.prog 79 #[v, .int .i64 (n : Int), .slice (some ⟨bv, 0, none⟩) 1 1] w fun e w' => ∃ v', e = .returned v' ∧ w'.ownsRow B 3 1 v' (n + 1) (xs ++ enc) ∧ w.grownBy w' v.ownBlock ∧ v' ≠ .slice none 0 0 ∧ (v'.ownBlock = v.ownBlock ∨ v'.ownBlock = some w.heap.size) := by
  obtain ⟨i0, hi, hz0, hz1, hz2⟩ := info_int13
  have HI := Lib.hid hi
  have HI0 := Lib.hid hz0
  have HI1 := Lib.hid hz1
  have HI2 := Lib.hid hz2
  have HR := Lib.hid h
  have HS : RowKit.Hid (Src (.slice (some ⟨bv, 0, none⟩) 1 1) 1 enc w) := .inr ⟨⟨bv, 0, none⟩, 1, rfl, enc_cellsI hbv⟩
  have HE1 := Lib.hid he1
  have HV := Lib.hid hvn
  obtain ⟨ao, cp, rfl, hc, hm⟩ := own_form13 h
  have hne : ao ≠ none := by
    intro e
    subst e
    rcases h.2 with ⟨e, _⟩ | ⟨g, cap', cur, e, _⟩
    · exact hvn e
    · cases (Value.slice.inj e).1
  obtain ⟨ad, rfl⟩ := Option.ne_none_iff_exists'.1 hne
  unfold maxLen at hm
  have c1 : (0 : Int) ≤ (n : Int) := by omega
  have c2 : (n : Int) ≤ (n : Int) := by omega
  clear h hi hz0 hz1 hz2 he1 hbv hvn hne
  go_enter Tryz.func79, Tryz.ntmps79
  go_wp2_with (at_builtin; refine wpList_append_src _ rfl _ _ 29 rfl B 3 i0 (.int .i64 0) 1 8 Tryz.underlying29 HI.out HI0.out HI1.out HI2.out rfl (by decide) (.slice (some ad) n cp) n xs rfl HR.out HV.out (.slice (some ⟨bv, 0, none⟩) 1 1) 1 enc rfl HS.out (by rw [he]) HE1.out (by unfold maxLen; omega) (by omega) hB ?_; intro v2 w2 h2 hg2 hn2 hl2)
  all_goals
    have H2 := Lib.hid h2
    have HG2 := Lib.hid hg2
    have HN2 := Lib.hid hn2
    have HL2 := Lib.hid hl2
    obtain ⟨ao2, cp2, rfl, -, -⟩ := own_form13 h2
    clear h2 hg2 hn2 hl2
    go_wp2
    go_ret
    exact ⟨_, rfl, H2.out, HG2.out, HN2.out, HL2.out⟩

set_option maxHeartbeats 16000000 in
set_option maxRecDepth 100000 in
theorem insRoomI (B g cap n k : Nat) (xs : List Value) (w : World) (h : w.ownsRow B 3 1 (.slice (some ⟨g, 0, none⟩) n cap) n xs) (hk : k < n) (hz : n ≤ 10000) (h1 : ∀ u ∈ xs, u.oneCell' = true) (hroom : n + 1 ≤ cap) (enc : List Value) (he : enc.length = 1) (he1 : ∀ u ∈ enc, u.oneCell' = true) (bv : Nat) (hbv : w.heap[bv]? = some (.cells enc.toArray 3 (0, 0))) (hne : bv ≠ g) :
    Calls Tryz.prog 79 #[.slice (some ⟨g, 0, none⟩) n cap, .int .i64 (k : Int), .slice (some ⟨bv, 0, none⟩) 1 1] w fun e w' => ∃ v', e = .returned v' ∧ w'.ownsRow B 3 1 v' (n + 1) (xs.take (k) ++ (enc ++ xs.drop (k))) ∧ w.grownBy w' (some g) ∧ v' ≠ .slice none 0 0 ∧ (v'.ownBlock = some g ∨ v'.ownBlock = some w.heap.size) := by
  have hxl := h.1
  rcases h.2 with ⟨h0, _⟩ | ⟨g', cap', cur, hv, hB, hg, hcap, hmax, hcs, htk⟩
  · cases h0
  obtain ⟨e1, -, e3⟩ := Value.slice.inj hv
  obtain rfl : g = g' := by simpa using e1
  subst e3
  obtain ⟨m, hm⟩ : ∃ m, n = k + 1 + m := ⟨n - (k + 1), by omega⟩
  subst hm
  unfold maxLen at hmax
  obtain ⟨cs, hcur⟩ : ∃ cs, cur.toList = cs := ⟨_, rfl⟩
  have hgc : w.heap[g]? = some (.cells cs.toArray 3 (0, 0)) := by rw [hg, ← hcur]
  have hcl : cs.length = cap := by
    rw [← hcur, Array.length_toList, hcs]
    all_goals omega
  rw [hcur] at htk
  obtain ⟨i0, hi, hz0, hz1, hz2⟩ := info_int13
  have hnews : (xs.drop (k)).length = m + 1 := by rw [List.length_drop, hxl]; omega
  have holds : (xs.take (k)).length = k := by rw [List.length_take, hxl]; omega
  have hw1 := heap_setCells13 (xs.drop (k)) (k + 1) w.drew cs (show w.drew.heap[g]? = _ from hgc) (by rw [hnews, hcl]; omega)
  have hl1 : (splice cs (k + 1) (xs.drop (k))).length = cap := by rw [length_splice _ _ _ (by rw [hnews, hcl]; omega), hcl]
  obtain ⟨w1, hw1e⟩ : ∃ w1, w.drew.setCells g (k + 1) (xs.drop (k)) = w1 := ⟨_, rfl⟩
  rw [hw1e] at hw1
  have hb1 : w.grownBy w1 (some g) := by rw [← hw1e]; exact setCells_grownI _ _ w w.drew ⟨rfl, rfl, rfl, Nat.le_refl _, fun _ _ _ => rfl⟩
  have hw2 := heap_setCells13 enc (k) w1 _ hw1 (by rw [he, hl1]; omega)
  have hfin : (w1.setCells g (k) enc).ownsRow B 3 1 (.slice (some ⟨g, 0, none⟩) (k + 1 + m + 1) cap) (k + 1 + m + 1) (xs.take (k) ++ (enc ++ xs.drop (k))) := by
    refine ⟨?_, .inr ⟨g, cap, _, rfl, hB, hw2, by omega, by unfold maxLen; omega, ?_, ?_⟩⟩
    · rw [List.length_append, List.length_append, holds, he, hnews]; omega
    · show (splice _ _ _).length = _
      rw [length_splice _ _ _ (by rw [he, hl1]; omega), hl1]
      all_goals omega
    · show (splice _ _ _).take _ = _
      have g1 : xs.take (k) = cs.take (k) := by
        rw [← htk, List.take_take]
        congr 1
        omega
      have g2 : (splice cs (k + 1) (xs.drop (k))).take (k) = cs.take (k) := take_lowI _ _ _ _ (by omega) (by rw [hcl]; omega)
      have g3 : (splice cs (k + 1) (xs.drop (k))).drop (k + 1) = xs.drop (k) ++ cs.drop (k + 1 + (m + 1)) := by
        unfold splice
        rw [List.drop_append, List.drop_of_length_le (by rw [List.length_take, hcl]; omega), List.nil_append, List.length_take, hcl, hnews, show k + 1 - min (k + 1) (cap) = 0 by omega, List.drop_zero]
      conv => lhs; unfold splice
      rw [show List.take (k) (List.take (k + 1) cs ++ (List.drop (k) xs ++ List.drop (k + 1 + (List.drop (k) xs).length) cs)) = cs.take (k) from g2, he]
      rw [show List.drop (k + 1) (List.take (k + 1) cs ++ (List.drop (k) xs ++ List.drop (k + 1 + (List.drop (k) xs).length) cs)) = _ from g3, ← g1]
      rw [← List.append_assoc enc, ← List.append_assoc]
      refine List.take_left' ?_
      rw [List.length_append, List.length_append, he, hnews, holds]
      omega
  have Hfin := Lib.hid hfin
  have Hb2 : RowKit.Hid (w.grownBy (w1.setCells g (k) enc) (some g)) := setCells_grownI enc _ w w1 hb1
  have hone : ∀ u ∈ xs.drop (k), u.oneCell' = true := fun u hu => h1 u (List.mem_of_mem_drop hu)
  have hcell : ∀ j u, (xs.drop (k))[j]? = some u → w.drew.cell? ((⟨g, k, none⟩ : Addr).add j) = some u := by
    intro j u hj
    have hjl := (List.getElem?_eq_some_iff.1 hj).1
    rw [hnews] at hjl
    have hadd : (⟨g, k, none⟩ : Addr).add j = ⟨g, k + j, none⟩ := by unfold Addr.add; split <;> simp_all
    rw [hadd]
    show w.cell? _ = _
    rw [Lib.cell_of_heap hgc]
    rw [List.getElem?_drop] at hj
    rw [← htk, List.getElem?_take_of_lt (by omega)] at hj
    simpa using hj
  have hspare : ∀ j, j < (xs.drop (k)).length → (w.drew.cell? ⟨g, k + 1 + j, none⟩).isSome = true ∧ w.drew.frozen? ⟨g, k + 1 + j, none⟩ = false := by
    intro j hj
    rw [hnews] at hj
    refine ⟨?_, Lib.frozen_of_heap (show w.drew.heap[g]? = _ from hgc) _⟩
    show (w.cell? _).isSome = true
    rw [Lib.cell_of_heap hgc]
    have : k + 1 + j < cs.length := by rw [hcl]; omega
    simp [this]
  have hbv1 : w1.heap[bv]? = some (.cells enc.toArray 3 (0, 0)) := by
    rw [← hw1e]
    exact (setCells_other13 hne _ _ _).trans hbv
  have hspare2 : ∀ j, j < enc.length → (w1.cell? ⟨g, k + j, none⟩).isSome = true ∧ w1.frozen? ⟨g, k + j, none⟩ = false := by
    intro j hj
    rw [he] at hj
    refine ⟨?_, Lib.frozen_of_heap hw1 _⟩
    rw [Lib.cell_of_heap hw1]
    have : k + j < (splice cs (k + 1) (xs.drop (k))).length := by rw [hl1]; omega
    simp [this]
  have hov : (callFunc 100 #[.slice (some ⟨bv, 0, none⟩) 1 1, .slice (some ⟨g, k + 1, none⟩) (k + 1 + m - k) (cap - (k + 1))]).run Tryz.prog w = .ok (.value (.bool false)) w :=
    overlapsI ⟨bv, 0, none⟩ ⟨g, k + 1, none⟩ 1 _ 1 _ w (by omega) (by omega) hne hbv hgc
  have HSz : RowKit.Hid ((Tryz.prog.info? 3).map (·.size) = some 1) := by unfold RowKit.Hid; rw [hi]; simp [hz1]
  have mn : RowKit.Hid ((xs.drop (k)).length = Nat.min (k + 1 + m + 1 - k) (k + 1 + m - k) * 1) := by
    show _ = min _ _ * 1
    rw [hnews]
    omega
  have mn2 : RowKit.Hid (enc.length = Nat.min 1 (k + 1 + m + 1 - k) * 1) := by
    show _ = min _ _ * 1
    rw [he]
    omega
  have HOne := Lib.hid hone
  have HCell := Lib.hid hcell
  have HSpare := Lib.hid hspare
  have HSpare2 := Lib.hid hspare2
  have HO1 := Lib.hid (enc_cellsI hbv1)
  have HEnc1 := Lib.hid he1
  have HW1 := Lib.hid hw1e
  generalize xs.take (k) = olds at *
  generalize xs.drop (k) = news at *
  have c1 : (0 : Int) ≤ (k : Int) := by omega
  have c2 : (k : Int) ≤ (k : Int) + 1 + (m : Int) := by omega
  have c3 : ((k : Int) == (k : Int) + 1 + (m : Int)) = false := by simp; omega
  have c4 : decide ((k : Int) = (k : Int) + 1 + (m : Int)) = false := decide_eq_false (by omega)
  have c5 : ¬ ((k : Int) = (k : Int) + 1 + (m : Int)) := by omega
  have c6 : decide ((cap : Int) < (k : Int) + 1 + (m : Int) + 1) = false := decide_eq_false (by omega)
  have c7 : ¬ ((cap : Int) < (k : Int) + 1 + (m : Int) + 1) := by omega
  have c8 : (k : Int) + 1 + (m : Int) + 1 ≤ (cap : Int) := by omega
  have c9 : (0 : Int) ≤ (k : Int) + 1 + (m : Int) + 1 := by omega
  have c10 : (k : Int) + 1 ≤ (k : Int) + 1 + (m : Int) + 1 := by omega
  have c11 : (k : Int) ≤ (k : Int) + 1 + (m : Int) + 1 := by omega
  have c12 : (0 : Int) ≤ (k : Int) + 1 := by omega
  have n1 : ((k : Int) + 1).toNat = k + 1 := by omega
  have n2 : ((k : Int) + 1 + (m : Int) + 1).toNat = k + 1 + m + 1 := by omega
  have n3 : ¬ cap = k := by omega
  have n6 : IntKind.i64.wrap ((k : Int) + 1) = (k : Int) + 1 := by rw [IntKind.wrap_i64]; omega
  have n4 : ¬ cap = k + 1 := by omega
  have n5 : ¬ k = k + 1 + m := by omega
  clear hw1e hw1 hw2 hb1 hfin hl1 hnews holds hone hcell hspare hspare2 hi hz0 hz1 hz2 hg hgc hcl htk hcur hcs hxl h h1 hv e1 hbv hbv1 he he1
  go_enter Tryz.func79, Tryz.ntmps79
  go_upto_region 15 with fail
  have hcp : ∀ ty, (Builtin.copy_ #[29, 29] ty #[.slice (some ⟨g, k, none⟩) (k + 1 + m + 1 - k) (cap - k), .slice (some ⟨bv, 0, none⟩) 1 1]).run Tryz.prog w1 = .ok (goInt (Nat.min 1 (k + 1 + m + 1 - k))) (w1.setCells g (k) enc) :=
    fun ty => run_copy_st w1 _ _ ty 3 g (k) _ _ ⟨bv, 0, none⟩ 1 1 1 enc Tryz.underlying29 HSz.out mn2.out HO1.out HSpare2.out HEnc1.out
  go_region_law (refine step_copy_st rfl (.tmp 73) (.tmp 76) 29 29 rfl 3 Tryz.underlying29 1 HSz.out g (k + 1) (k + 1 + m - k) (cap - (k + 1)) ⟨g, k, none⟩ (k + 1 + m + 1 - k) (cap - k) (by simp [Act.eval, Act.put]) (by simp [Act.eval, Act.put]) news mn.out HCell.out HSpare.out HOne.out ?_)
  all_goals
    rw [HW1.out]
    go_wp2
    go_ret
    exact ⟨_, rfl, Hfin.out, Hb2.out, (fun h => by cases h), .inl rfl⟩

set_option maxHeartbeats 16000000 in
set_option maxRecDepth 100000 in
theorem insGrowI (B g n k : Nat) (xs : List Value) (w : World) (h : w.ownsRow B 3 1 (.slice (some ⟨g, 0, none⟩) n n) n xs) (hB : B ≤ w.heap.size) (hk : k < n) (hz : n ≤ 10000) (h1 : ∀ u ∈ xs, u.oneCell' = true) (enc : List Value) (he : enc.length = 1) (he1 : ∀ u ∈ enc, u.oneCell' = true) (bv : Nat) (hbv : w.heap[bv]? = some (.cells enc.toArray 3 (0, 0))) :
    Calls Tryz.prog 79 #[.slice (some ⟨g, 0, none⟩) n n, .int .i64 (k : Int), .slice (some ⟨bv, 0, none⟩) 1 1] w fun e w' => ∃ v', e = .returned v' ∧ w'.ownsRow B 3 1 v' (n + 1) (xs.take (k) ++ (enc ++ xs.drop (k))) ∧ w.grownBy w' (some g) ∧ v' ≠ .slice none 0 0 ∧ (v'.ownBlock = some g ∨ v'.ownBlock = some w.heap.size) := by
  have hxl := h.1
  rcases h.2 with ⟨h0, _⟩ | ⟨g', cap', cur, hv, hBg, hg, hcap, hmaxn, hcs, htk⟩
  · cases h0
  obtain ⟨e1, -, e3⟩ := Value.slice.inj hv
  obtain rfl : g = g' := by simpa using e1
  obtain ⟨cs, hcur⟩ : ∃ cs, cur.toList = cs := ⟨_, rfl⟩
  have hgc : w.heap[g]? = some (.cells cs.toArray 3 (0, 0)) := by rw [hg, ← hcur]
  rw [hcur] at htk
  obtain ⟨m, hm⟩ : ∃ m, n = k + 1 + m := ⟨n - (k + 1), by omega⟩
  obtain ⟨i0, hi, hz0, hz1, hz2⟩ := info_int13
  have HSz : RowKit.Hid ((Tryz.prog.info? 3).map (·.size) = some 1) := by unfold RowKit.Hid; rw [hi]; simp [hz1]
  have hnews : (xs.drop (k)).length = m + 1 := by rw [List.length_drop, hxl]; omega
  have holds : (xs.take (k)).length = k := by rw [List.length_take, hxl]; omega
  have hat : ∀ j u, xs[j]? = some u → w.cell? ⟨g, j, none⟩ = some u := by
    intro j u hj
    have hjl := (List.getElem?_eq_some_iff.1 hj).1
    rw [Lib.cell_of_heap hgc]
    rw [← htk, List.getElem?_take_of_lt (by omega)] at hj
    simpa using hj
  have hgr := grownCap_ok w (k + (m + 2)) n 3 (by unfold maxLen; omega)
  have hap := run_append_mk (P := Tryz.prog) w 29 3 (z := .int .i64 0) (ty := 29) (e := 3) (i := i0) Tryz.underlying29 Tryz.underlying3 hi hz0 ⟨g, 0, none⟩ k n (xs.take (k)) (by rw [holds, hz1]; omega)
    (fun j v hj => by
      have hadd : (⟨g, 0, none⟩ : Addr).add j = ⟨g, j, none⟩ := by unfold Addr.add; split <;> simp_all
      rw [hadd]
      have hjl := (List.getElem?_eq_some_iff.1 hj).1
      rw [holds] at hjl
      exact hat j v (by rw [List.getElem?_take_of_lt hjl] at hj; exact hj)) (m + 2) (by rw [hz1]; omega) (by omega) (by omega) (by omega) (growslice_fits (by omega) (by rw [hz2]; omega))
  generalize grownCap w (k + (m + 2)) n 3 = cap at *
  obtain ⟨hge, hmax⟩ := hgr
  obtain ⟨cs0, hcs0⟩ : ∃ cs0 : List Value, cs0 = xs.take (k) ++ ((Builtin.zeroCells #[.int .i64 0] (m + 2)).toList ++ (Builtin.zeroCells #[.int .i64 0] (cap - (k + (m + 2)))).toList) := ⟨_, rfl⟩
  have hl0 : cs0.length = cap := by
    have hz : ∀ n, (Builtin.zeroCells #[.int .i64 0] n).size = n * 1 := fun n => by simp [Builtin.zeroCells]
    rw [hcs0, List.length_append, List.length_append, holds, Array.length_toList, Array.length_toList, hz, hz]
    omega
  have ht0 : cs0.take (k) = xs.take (k) := by rw [hcs0]; exact List.take_left' holds
  obtain ⟨w0, hw0⟩ : ∃ w0, w.drew.alloc (.cells cs0.toArray 3) = w0 := ⟨_, rfl⟩
  have hap2 : (Builtin.append_ #[29, 3] 29 #[.slice (some ⟨g, 0, none⟩) k (k + 1 + m), .int .i64 ((k : Int) + 1 + (m : Int) + 1 - (k : Int))]).run Tryz.prog w = .ok (.slice (some ⟨w.heap.size, 0, none⟩) (k + (m + 2)) cap) w0 := by
    rw [hm] at hap
    rw [show (k : Int) + 1 + (m : Int) + 1 - (k : Int) = ((m + 2 : Nat) : Int) by omega]
    rw [hap, ← hw0, hcs0]
    congr 4
    simp [Value.cells]
  have hg0 : w0.heap[w.heap.size]? = some (.cells cs0.toArray 3 (0, 0)) := by rw [← hw0]; exact heap_alloc_new w.drew _
  have hb0 : Below w.heap.size w w0 := by rw [← hw0]; exact (Below.refl w.heap.size w).drew.alloc (Nat.le_refl _) _
  have hgw : g < w.heap.size := (Array.getElem?_eq_some_iff.1 hgc).1
  have hbw : bv < w.heap.size := (Array.getElem?_eq_some_iff.1 hbv).1
  have hw1 := heap_setCells13 enc (k) w0 cs0 hg0 (by rw [he, hl0]; omega)
  have hl1 : (splice cs0 (k) enc).length = cap := by rw [length_splice _ _ _ (by rw [he, hl0]; omega), hl0]
  obtain ⟨w1, hw1e⟩ : ∃ w1, w0.setCells w.heap.size (k) enc = w1 := ⟨_, rfl⟩
  rw [hw1e] at hw1
  have hb1 : Below w.heap.size w w1 := by rw [← hw1e]; exact setCells_below13 (Nat.le_refl _) _ _ _ _ hb0
  have hw2 := heap_setCells13 (xs.drop (k)) (k + 1) w1.drew _ (show w1.drew.heap[w.heap.size]? = _ from hw1) (by rw [hnews, hl1]; omega)
  have hfin : (w1.drew.setCells w.heap.size (k + 1) (xs.drop (k))).ownsRow B 3 1 (.slice (some ⟨w.heap.size, 0, none⟩) (k + 1 + m + 1) cap) (k + 1 + m + 1) (xs.take (k) ++ (enc ++ xs.drop (k))) := by
    refine ⟨?_, .inr ⟨w.heap.size, cap, _, rfl, hB, hw2, by omega, hmax, ?_, ?_⟩⟩
    · rw [List.length_append, List.length_append, holds, he, hnews]; omega
    · show (splice _ _ _).length = _
      rw [length_splice _ _ _ (by rw [hnews, hl1]; omega), hl1]
      all_goals omega
    · show (splice _ _ _).take _ = _
      have h3 := take_spliceI (splice cs0 (k) enc) (k + 1) (xs.drop (k)) (by rw [hnews, hl1]; omega)
      have h2 := take_spliceI cs0 (k) enc (by rw [he, hl0]; omega)
      rw [he, ht0] at h2
      have e5 : k + 1 + (xs.drop (k)).length = (k + 1 + m + 1) * 1 := by
        have := hnews
        omega
      rw [e5, show k + 1 = k + 1 by omega, h2, List.append_assoc] at h3
      rw [show k + 1 = k + 1 by omega]
      exact h3
  have Hfin := Lib.hid hfin
  have Hb2 : RowKit.Hid (w.grownBy (w1.drew.setCells w.heap.size (k + 1) (xs.drop (k))) (some g)) := by
    have hb := setCells_below13 (Nat.le_refl w.heap.size) (xs.drop (k)) (k + 1) w w1.drew hb1.drew
    exact ⟨hb.os, hb.tape, hb.output, hb.size, fun i hi _ => hb.block i hi⟩
  have hone : ∀ u ∈ xs.drop (k), u.oneCell' = true := fun u hu => h1 u (List.mem_of_mem_drop hu)
  have hcell : ∀ j u, (xs.drop (k))[j]? = some u → w1.drew.cell? ((⟨g, k, none⟩ : Addr).add j) = some u := by
    intro j u hj
    have hadd : (⟨g, k, none⟩ : Addr).add j = ⟨g, k + j, none⟩ := by unfold Addr.add; split <;> simp_all
    rw [hadd]
    exact (hb1.cell (p := ⟨g, k + j, none⟩) hgw).trans (hat (k + j) u (by rw [List.getElem?_drop] at hj; exact hj))
  have hspare : ∀ j, j < (xs.drop (k)).length → (w1.drew.cell? ⟨w.heap.size, k + 1 + j, none⟩).isSome = true ∧ w1.drew.frozen? ⟨w.heap.size, k + 1 + j, none⟩ = false := by
    intro j hj
    rw [hnews] at hj
    have hw1d : w1.drew.heap[w.heap.size]? = _ := hw1
    refine ⟨?_, Lib.frozen_of_heap hw1d _⟩
    rw [Lib.cell_of_heap hw1d]
    have : k + 1 + j < (splice cs0 (k) enc).length := by rw [hl1]; omega
    simp [this]
  have hbv0 : w0.heap[bv]? = some (.cells enc.toArray 3 (0, 0)) := (hb0.block bv hbw).trans hbv
  have hspare2 : ∀ j, j < enc.length → (w0.cell? ⟨w.heap.size, k + j, none⟩).isSome = true ∧ w0.frozen? ⟨w.heap.size, k + j, none⟩ = false := by
    intro j hj
    rw [he] at hj
    refine ⟨?_, Lib.frozen_of_heap hg0 _⟩
    rw [Lib.cell_of_heap hg0]
    have : k + j < cs0.length := by rw [hl0]; omega
    simp [this]
  have mn : RowKit.Hid ((xs.drop (k)).length = Nat.min (k + 1 + m - k) (k + (m + 2) - (k + 1)) * 1) := by
    show _ = min _ _ * 1
    rw [hnews]
    omega
  have mn2 : RowKit.Hid (enc.length = Nat.min 1 (m + 2) * 1) := by
    show _ = min _ _ * 1
    rw [he]
    omega
  have HAp := Lib.hid hap2
  clear hap2
  have HOne := Lib.hid hone
  have HCell := Lib.hid hcell
  have HSpare := Lib.hid hspare
  have hcp : ∀ ty, (Builtin.copy_ #[29, 29] ty #[.slice (some ⟨w.heap.size, k, none⟩) (m + 2) (cap - k), .slice (some ⟨bv, 0, none⟩) 1 1]).run Tryz.prog w0 = .ok (goInt (Nat.min 1 (m + 2))) w1 :=
    fun ty => (run_copy_st w0 _ _ ty 3 w.heap.size (k) _ _ ⟨bv, 0, none⟩ 1 1 1 enc Tryz.underlying29 HSz.out mn2.out (enc_cellsI hbv0) hspare2 he1).trans (by rw [hw1e])
  unfold maxLen at hmax
  subst hm
  generalize xs.take (k) = olds at *
  generalize xs.drop (k) = news at *
  have c1 : (0 : Int) ≤ (k : Int) := by omega
  have c2 : (k : Int) ≤ (k : Int) + 1 + (m : Int) := by omega
  have c3 : ((k : Int) == (k : Int) + 1 + (m : Int)) = false := by simp; omega
  have c5 : ¬ ((k : Int) = (k : Int) + 1 + (m : Int)) := by omega
  have c6 : decide ((k : Int) + 1 + (m : Int) < (k : Int) + 1 + (m : Int) + 1) = true := decide_eq_true (by omega)
  have c7 : (k : Int) + 1 + (m : Int) < (k : Int) + 1 + (m : Int) + 1 := by omega
  have n5 : ¬ k = k + 1 + m := by omega
  clear hw0 hw1e hw1 hw2 hb0 hb1 hfin hl0 hl1 hnews hone hcell hspare hspare2 hi hz0 hz1 hz2 hcs0 ht0 hg0 hap holds hg hgc htk hcur hcs hxl h h1 hv e1 e3 hbv hbv0 he he1 hat hgw hbw hcap hmaxn hBg
  go_enter Tryz.func79, Tryz.ntmps79
  have n4 : ¬ cap = k + 1 := by omega
  have n3 : ¬ cap = k := by omega
  go_upto_region 10 with (at_builtin; go_loud (refine wpList_append_run rfl _ _ 29 3 rfl _ _ rfl rfl HAp.out ?_))
  have c8 : (k : Int) ≤ (k : Int) + ((m : Int) + 2) := by omega
  have c9 : (k : Int) + 1 ≤ (k : Int) + ((m : Int) + 2) := by omega
  have c10 : (0 : Int) ≤ (k : Int) + 1 := by omega
  have n6 : IntKind.i64.wrap ((k : Int) + 1) = (k : Int) + 1 := by rw [IntKind.wrap_i64]; omega
  have n1 : ((k : Int) + 1).toNat = k + 1 := by omega
  have n7 : ¬ k + 1 + m = k := by omega
  go_upto_region 11 with fail
  go_region_law (refine step_copy_st rfl (.tmp 50) (.tmp 53) 29 29 rfl 3 Tryz.underlying29 1 HSz.out w.heap.size (k + 1) (k + (m + 2) - (k + 1)) (cap - (k + 1)) ⟨g, k, none⟩ (k + 1 + m - k) (k + 1 + m - k) (by simp [Act.eval, Act.put]) (by simp [Act.eval, Act.put]) news mn.out HCell.out HSpare.out HOne.out ?_)
  all_goals
    go_wp2
    go_ret
    exact ⟨_, rfl, by rw [show k + (m + 2) = k + 1 + m + 1 by omega]; exact Hfin.out, Hb2.out, (fun h => by cases h), .inr rfl⟩

/-- slices.Insert of one integer into a row of the call's own that isn't nil. -/
theorem insI_any (B : Nat) (v : Value) (n k : Nat) (xs : List Value) (w : World) (h : w.ownsRow B 3 1 v n xs) (hvn : v ≠ .slice none 0 0) (hB : B ≤ w.heap.size) (hk : k ≤ n) (hz : n ≤ 10000) (h1 : ∀ u ∈ xs, u.oneCell' = true) (enc : List Value) (he : enc.length = 1) (he1 : ∀ u ∈ enc, u.oneCell' = true) (bv : Nat) (hbv : w.heap[bv]? = some (.cells enc.toArray 3 (0, 0))) (hne : v.ownBlock ≠ some bv) :
    Calls Tryz.prog 79 #[v, .int .i64 (k : Int), .slice (some ⟨bv, 0, none⟩) 1 1] w fun e w' => ∃ v', e = .returned v' ∧ w'.ownsRow B 3 1 v' (n + 1) (xs.take (k) ++ (enc ++ xs.drop (k))) ∧ w.grownBy w' v.ownBlock ∧ v' ≠ .slice none 0 0 ∧ (v'.ownBlock = v.ownBlock ∨ v'.ownBlock = some w.heap.size) := by
  rcases Nat.lt_or_ge k n with hlt | hge
  · rcases id h.2 with ⟨h0, _⟩ | ⟨g, cap, cur, rfl, hBg, hg, hcap, hmax, _⟩
    · exact absurd h0 hvn
    · have hng : bv ≠ g := fun e => hne (by rw [e]; rfl)
      rcases Nat.lt_or_ge n cap with hroom | hfull
      · exact insRoomI B g cap n k xs w h hlt hz h1 hroom enc he he1 bv hbv hng
      · obtain rfl : cap = n := Nat.le_antisymm hfull hcap
        exact insGrowI B g cap k xs w h hB hlt hz h1 enc he he1 bv hbv
  · obtain rfl : k = n := by omega
    have hl := h.1
    rw [List.take_of_length_le (by omega), List.drop_of_length_le (by omega), List.append_nil]
    exact insEndI B v k xs w h hvn hB hz enc he he1 bv hbv
end

section
open Go.RowKit Go.PlainAid
set_option maxHeartbeats 1000000 in
theorem isNaN_sl (x : Int) (w : World) : Calls Tryz.prog 99 #[.int .i64 x] w fun e w' => e = .returned (.bool false) ∧ w' = w := by
  go_enter Tryz.func99, Tryz.ntmps99
  go_wp2
  go_ret
  exact ⟨by simp, rfl⟩
set_option maxHeartbeats 1000000 in
theorem less_any (x y : Int) (w : World) (b : Bool) (hb : decide (x < y) = b) : Calls Tryz.prog 98 #[.int .i64 x, .int .i64 y] w fun e w' => e = .returned (.bool b) ∧ w' = w := by
  have c1 := isNaN_int x w
  go_enter Tryz.func98, Tryz.ntmps98
  go_wp2_with fail
  refine c1.mono ?_
  rintro e w1 ⟨rfl, rfl⟩
  go_wp2
  go_ret
  exact ⟨by first | rfl | (rw [← hb]), rfl⟩

set_option maxHeartbeats 16000000 in
set_option maxRecDepth 100000 in
theorem binI_any (v : Value) (l : List Int) (x : Int) (w : World) (hv : IL v l w) (hs : AscI l) (hz : l.length ≤ 1000000) :
    Calls Tryz.prog 77 #[v, .int .i64 x] w fun e w' => e = .returned (.tuple #[.int .i64 (plcI l x : Nat), .bool (decide (x ∈ l))]) ∧ w' = w := by
  have HV := Lib.hid hv
  obtain ⟨va, vc, rfl, hc1, -⟩ := hv
  obtain ⟨n, hn⟩ : ∃ n, l.length = n := ⟨_, rfl⟩
  have HN := Lib.hid hn
  rw [hn] at HV hc1 hz ⊢
  obtain ⟨k, hk⟩ : ∃ k, plcI l x = k := ⟨_, rfl⟩
  obtain ⟨b, hb⟩ : ∃ b, decide (x ∈ l) = b := ⟨_, rfl⟩
  have HB : RowKit.Hid (b = decide (k < n ∧ l.getD k 0 = x)) := by
    have := mem_plcI l x hs
    unfold RowKit.Hid
    rw [hk, hn] at this
    rw [← hb, Bool.eq_iff_iff, decide_eq_true_iff, decide_eq_true_iff]
    exact this
  have HKe := Lib.hid (fun (m : Nat) (h0 : m ≤ n) (h1 : ∀ t, t < m → l.getD t 0 < x) (h2 : ∀ t, m ≤ t → t < n → x ≤ l.getD t 0) => hk.symm.trans (plc_eq (fun x => x) 0 l x m (by rw [hn]; exact h0) h1 (by rw [hn]; exact h2)))
  have HM : RowKit.Hid (∀ a b, a ≤ b → b < n → l.getD b 0 < x → l.getD a 0 < x) := by
    intro a b hab hbn h
    rw [← hn] at hbn
    rcases Nat.lt_or_eq_of_le hab with h1 | rfl
    · have := List.pairwise_iff_getElem.1 hs a b (by omega) hbn h1
      rw [List.getD_eq_getElem?_getD, List.getElem?_eq_getElem hbn] at h
      rw [List.getD_eq_getElem?_getD, List.getElem?_eq_getElem (by omega)]
      exact Int.lt_trans this h
    · exact h
  rw [hk, hb]
  clear hs hn hk hb
  go_enter Tryz.func77, Tryz.ntmps77
  go_wp2
  go_loopg [7, 8, 9] n (fun kx s7 s8 _ wr => ∃ lo hi : Nat, s7 = .int .i64 lo ∧ s8 = .int .i64 hi ∧ lo ≤ hi ∧ hi ≤ n ∧ hi - lo ≤ kx ∧ w = wr ∧
    RowKit.Hid ((∀ t, t < lo → l.getD t 0 < x) ∧ (∀ t, hi ≤ t → t < n → x ≤ l.getD t 0)))
  case atStart => exact ⟨0, n, rfl, rfl, Nat.zero_le _, Nat.le_refl _, by omega, rfl, ⟨fun t ht => absurd ht (Nat.not_lt_zero _), fun t h1 h2 => by omega⟩⟩
  case round =>
    obtain ⟨lo, hi, rfl, rfl, hlh, hin, hg, hwr, I⟩ := hrel
    rw [← hwr]
    clear hwr
    by_cases hlt : lo < hi
    · obtain ⟨g, o, cap', he, hgl, c0⟩ := il_at HV.out ((lo + hi) / 2) (by rw [HN.out]; omega)
      obtain ⟨rfl, -, hcp⟩ := Value.slice.inj he
      obtain ⟨y, hy⟩ : ∃ y, l.getD ((lo + hi) / 2) 0 = y := ⟨_, rfl⟩
      rw [hy] at c0
      have Y := Lib.hid hy
      clear he hcp hy
      by_cases hyx : y < x
      · have cL := Lib.hid (less_any y x w true (decide_eq_true hyx))
        go_wp2_with fail
        refine cL.out.mono ?_
        rintro e w1 ⟨rfl, hw1⟩
        rw [hw1]
        clear hw1
        go_wp2
        go_roundg (hi - ((lo + hi) / 2 + 1))
        case measure => omega
        case rel =>
          have I2 : RowKit.Hid ((∀ t, t < (lo + hi) / 2 + 1 → l.getD t 0 < x) ∧ (∀ t, hi ≤ t → t < n → x ≤ l.getD t 0)) := ⟨fun t ht => HM.out t ((lo + hi) / 2) (by omega) (by omega) (by rw [Y.out]; exact hyx), I.out.2⟩
          exact ⟨(lo + hi) / 2 + 1, hi, by rw [show ((lo : Int) + (hi : Int)) / 2 + 1 = (((lo + hi) / 2 + 1 : Nat) : Int) by omega], rfl, by omega, hin, Nat.le_refl _, rfl, I2⟩
      · have cL := Lib.hid (less_any y x w false (decide_eq_false hyx))
        go_wp2_with fail
        refine cL.out.mono ?_
        rintro e w1 ⟨rfl, hw1⟩
        rw [hw1]
        clear hw1
        go_wp2
        go_roundg ((lo + hi) / 2 - lo)
        case measure => omega
        case rel =>
          have I2 : RowKit.Hid ((∀ t, t < lo → l.getD t 0 < x) ∧ (∀ t, (lo + hi) / 2 ≤ t → t < n → x ≤ l.getD t 0)) := ⟨I.out.1, fun t ht htn => Int.not_lt.1 fun h => by have := HM.out ((lo + hi) / 2) t ht htn h; rw [Y.out] at this; omega⟩
          exact ⟨lo, (lo + hi) / 2, rfl, by rw [show ((lo : Int) + (hi : Int)) / 2 = (((lo + hi) / 2 : Nat) : Int) by omega], by omega, by omega, Nat.le_refl _, rfl, I2⟩
    · obtain rfl : hi = lo := by omega
      obtain rfl : k = hi := HKe.out hi hin I.out.1 I.out.2
      by_cases hkn : k < n
      · obtain ⟨g, o, cap', he, hgl, c0⟩ := il_at HV.out k (by rw [HN.out]; omega)
        obtain ⟨rfl, -, hcp⟩ := Value.slice.inj he
        obtain ⟨y, hy⟩ : ∃ y, l.getD k 0 = y := ⟨_, rfl⟩
        have HB2 := HB.out
        rw [hy] at c0 HB2
        have i2 : (k : Int) < (n : Int) := by omega
        have i1 : (0 : Int) ≤ (k : Int) := by omega
        by_cases hyx : y = x
        · subst hyx
          obtain rfl : b = true := by rw [HB2]; exact decide_eq_true ⟨hkn, rfl⟩
          have t0 : (y == y) = true := by simp
          clear he hcp hy HB2
          go_wp2
          go_ret2
          exact ⟨rfl, rfl⟩
        · obtain rfl : b = false := by rw [HB2]; exact decide_eq_false (fun h => hyx h.2)
          have t0 : (y == x) = false := by simpa using hyx
          have cN := Lib.hid (isNaN_sl y w)
          clear he hcp hy HB2
          go_wp2_with fail
          refine cN.out.mono ?_
          rintro e w1 ⟨rfl, hw1⟩
          rw [hw1]
          clear hw1
          go_wp2
          go_ret2
          exact ⟨rfl, rfl⟩
      · obtain rfl : k = n := by omega
        obtain rfl : b = false := by rw [HB.out]; exact decide_eq_false (fun h => hkn h.1)
        have d0 : decide ((k : Int) < (k : Int)) = false := decide_eq_false (by omega)
        go_wp2
        go_ret2
        exact ⟨rfl, rfl⟩
end

end Go.Proofs.YtmcolapcmjdoeaaGreatDoor
