/- Merged: Plain15D, KC15, RegRel, RegFam. -/
import Derived.Test.YtfjfpefpdlecbaaGreatDoorQ07
import Derived.Lib.SlicesCompact
import Derived.Sort.Walk0
import Derived.Test.YtfjfpefpdlecbaaGreatDoorQ25
import Derived.Test.YtfjfpefpdlecbaaGreatDoorQ27
import Derived.Test.YtfjfpefpdlecbaaGreatDoorQ15
import Derived.Sort.OwnSorted
import Derived.Maps.AppendAt
import Derived.Lib.OwnBridge
import Derived.Test.YtfjfpefpdlecbaaGreatDoorQ14
namespace Go.Proofs.YtfjfpefpdlecbaaGreatDoor

section
open Go.RowKit
/-! Sorted and made distinct. -/
theorem compact_ascT (d : Array (List UInt8)) (hs : ∀ i j, i ≤ j → j < d.size → ltT d[j]! d[i]! = false) : ∀ m, m ≤ d.size → AscO ltT (Lib.compactUpTo d m) ∧ ∀ x, x ∈ Lib.compactUpTo d m ↔ ∃ j, j < m ∧ d[j]! = x
  | 0, _ => by
    have e : Lib.compactUpTo d 0 = [] := rfl
    rw [e]
    refine ⟨List.Pairwise.nil, fun x => ⟨fun h => (by cases h), fun ⟨j, h, _⟩ => by omega⟩⟩
  | m + 1, hm => by
    obtain ⟨h1, h2⟩ := compact_ascT d hs m (by omega)
    rw [Lib.compactUpTo_succ]
    cases hk : Lib.keeps d m with
    | true =>
      rw [if_pos rfl]
      refine ⟨?_, fun x => ?_⟩
      · unfold AscO
        rw [List.pairwise_append]
        refine ⟨h1, List.pairwise_singleton _ _, fun a ha b hb => ?_⟩
        rw [List.mem_singleton] at hb
        subst hb
        obtain ⟨j, hj, rfl⟩ := (h2 a).1 ha
        have hne : d[m]! ≠ d[m - 1]! := by
          intro e
          rw [Lib.keeps_neg (by omega) e] at hk
          cases hk
        have g1 := hs j (m - 1) (by omega) (by omega)
        have g2 := hs (m - 1) m (by omega) (by omega)
        have g3 : ltT d[m - 1]! d[m]! = true := by
          by_cases g : ltT d[m - 1]! d[m]! = true
          · exact g
          · exact absurd (ltT_tot _ _ g2 (by simpa using g)) hne
        by_cases g4 : ltT d[j]! d[m - 1]! = true
        · exact ltT_tr _ _ _ g4 g3
        · rw [ltT_tot _ _ (by simpa using g4) g1]
          exact g3
      · rw [List.mem_append, h2, List.mem_singleton]
        constructor
        · rintro (⟨j, hj, h⟩ | rfl)
          · exact ⟨j, by omega, h⟩
          · exact ⟨m, by omega, rfl⟩
        · rintro ⟨j, hj, h⟩
          rcases Nat.lt_or_ge j m with g | g
          · exact .inl ⟨j, g, h⟩
          · obtain rfl : j = m := by omega
            exact .inr h.symm
    | false =>
      rw [if_neg (by decide), List.append_nil]
      refine ⟨h1, fun x => ?_⟩
      rw [h2]
      constructor
      · rintro ⟨j, hj, h⟩
        exact ⟨j, by omega, h⟩
      · rintro ⟨j, hj, h⟩
        rcases Nat.lt_or_ge j m with g | g
        · exact ⟨j, g, h⟩
        · obtain rfl : j = m := by omega
          have hp : 0 < j := by
            rcases Nat.eq_zero_or_pos j with g0 | g0
            · subst g0
              rw [Lib.keeps_lt_one d 0 (by omega)] at hk
              cases hk
            · exact g0
          refine ⟨j - 1, by omega, ?_⟩
          rw [← h]
          by_cases e : d[j]! = d[j - 1]!
          · exact e.symm
          · rw [Lib.keeps_pos e] at hk
            cases hk
theorem ltT_le (a b : List UInt8) : ltT b a = !decide (a ≤ b) := by
  unfold ltT
  rw [bytesLess_eq, ← decide_not]
  exact decide_eq_decide.2 List.not_le.symm
def sortT (M : List (List UInt8)) : List (List UInt8) := M.mergeSort fun x y => decide (x ≤ y)
theorem sortT_asc (M : List (List UInt8)) : (sortT M).Pairwise fun a b => ltT b a = false := by
  have tr : ∀ a b c : List UInt8, decide (a ≤ b) = true → decide (b ≤ c) = true → decide (a ≤ c) = true := fun a b c h1 h2 => by simp only [decide_eq_true_eq] at *; exact List.le_trans h1 h2
  have tot : ∀ a b : List UInt8, (decide (a ≤ b) || decide (b ≤ a)) = true := fun a b => by simp only [Bool.or_eq_true, decide_eq_true_eq]; exact List.le_total a b
  refine (List.pairwise_mergeSort tr tot M).imp fun {a b} h => ?_
  rw [ltT_le, h]
  rfl
theorem compact_sortT (M : List (List UInt8)) : AscO ltT (Lib.compact (sortT M)) ∧ ∀ x, x ∈ Lib.compact (sortT M) ↔ x ∈ M := by
  have h1 := sortT_asc M
  have hp : ∀ x, x ∈ sortT M ↔ x ∈ M := fun x => (List.mergeSort_perm M _).mem_iff
  generalize sortT M = Z at *
  have hget : ∀ i, (hi : i < Z.length) → Z.toArray[i]! = Z[i] := fun i hi => by simp [getElem!_pos, hi]
  have hs : ∀ i j, i ≤ j → j < Z.toArray.size → ltT Z.toArray[j]! Z.toArray[i]! = false := by
    intro i j hij hj
    have hj' : j < Z.length := by simpa using hj
    rw [hget i (by omega), hget j hj']
    rcases Nat.lt_or_ge i j with h | h
    · exact (List.pairwise_iff_getElem.1 h1) i j (by omega) hj' h
    · obtain rfl : i = j := by omega
      exact ltT_irr _
  obtain ⟨h3, h4⟩ := compact_ascT Z.toArray hs Z.length (by simp)
  refine ⟨h3, fun x => ?_⟩
  rw [← hp]
  refine (h4 x).trans ⟨fun ⟨j, hj, h⟩ => ?_, fun h => ?_⟩
  · rw [hget j hj] at h
    rw [← h]
    exact List.getElem_mem hj
  · obtain ⟨j, hj, rfl⟩ := List.getElem_of_mem h
    exact ⟨j, hj, hget j hj⟩
theorem keys_sorted (k : MKey) (r : Rec) : Lib.compact (sortT (valsK k r)) = keysM k r := keysM_only k r _ (compact_sortT _).1 (compact_sortT _).2

/-! Two ascending lists, side by side. -/
theorem asc_head {a : List UInt8} {A : List (List UInt8)} (h : AscO ltT (a :: A)) : (∀ x ∈ A, ltT a x = true) ∧ AscO ltT A := List.pairwise_cons.1 h
theorem meet_less (a b : List UInt8) (A B : List (List UInt8)) (hB : AscO ltT (b :: B)) (h : ltT a b = true) : meetL (a :: A) (b :: B) = meetL A (b :: B) := by
  rw [Bool.eq_iff_iff, meetL_iff, meetL_iff]
  refine ⟨fun ⟨x, h1, h2⟩ => ?_, fun ⟨x, h1, h2⟩ => ⟨x, List.mem_cons_of_mem _ h1, h2⟩⟩
  rcases List.mem_cons.1 h1 with rfl | h1
  · rcases List.mem_cons.1 h2 with rfl | h2
    · rw [ltT_irr] at h; cases h
    · have := ltT_tr _ _ _ h ((asc_head hB).1 x h2)
      rw [ltT_irr] at this
      cases this
  · exact ⟨x, h1, h2⟩
theorem meet_more (a b : List UInt8) (A B : List (List UInt8)) (hA : AscO ltT (a :: A)) (h : ltT b a = true) : meetL (a :: A) (b :: B) = meetL (a :: A) B := by
  rw [meetL_comm, meet_less b a B A hA h, meetL_comm]
theorem meet_same (a : List UInt8) (A B : List (List UInt8)) : meetL (a :: A) (a :: B) = true := by
  rw [meetL_iff]
  exact ⟨a, List.mem_cons_self, List.mem_cons_self⟩
theorem meet_nil (A : List (List UInt8)) : meetL A [] = false := by
  rw [Bool.eq_false_iff]
  intro h
  obtain ⟨x, _, h2⟩ := (meetL_iff _ _).1 h
  cases h2
theorem asc_drop {A : List (List UInt8)} (h : AscO ltT A) (i : Nat) : AscO ltT (A.drop i) := List.Pairwise.sublist (List.drop_sublist i A) h
theorem drop_cons15 (A : List (List UInt8)) (i : Nat) (h : i < A.length) : A.drop i = A.getD i [] :: A.drop (i + 1) := by
  rw [List.drop_eq_getElem_cons h, List.getD_eq_getElem?_getD, List.getElem?_eq_getElem h]
  rfl

/-! What is found, sorted. -/
theorem sorted_asc {α : Type} {lt : α → α → Bool} (S : Strict lt) (L : List α) (h : L.Pairwise fun a b => lt b a = false) (hn : L.Nodup) : AscO lt L := by
  unfold AscO
  rw [List.nodup_iff_pairwise_ne] at hn
  refine (List.Pairwise.and h hn).imp fun {a b} ⟨h1, h2⟩ => ?_
  by_cases g : lt a b = true
  · exact g
  · exact absurd (S.tot a b (by simpa using g) h1) h2
theorem found_sorted (m : MRule) (l : List Rec) (r : Rec) (h : (idsOf l).Nodup) (L : List (Int × Int)) (hp : L.Perm (hitsM m l r)) (hs : L.Pairwise fun a b => ltF b a = false) : L.map (·.2) = findM m l r := by
  have := found_only m l r h L (sorted_asc strictF L hs (hp.symm.nodup (hits_nodup m l r h))) (fun p => hp.mem_iff)
  rw [this]
  rfl

/-! Pairs, of records that ascend. -/
def pairsA (m : MRule) (a : Rec) (l : List Rec) : List (Int × Int) := (l.filter fun b => decide (m.need ≤ scoreM m a b)).map fun b => (a.id, b.id)
def pairsP (m : MRule) : List Rec → List (Int × Int)
  | [] => []
  | a :: r => pairsA m a r ++ pairsP m r
def ltI (a b : Rec) : Bool := decide (a.id < b.id)
theorem mem_pairsA (m : MRule) (a : Rec) (l : List Rec) (p : Int × Int) : p ∈ pairsA m a l ↔ ∃ b ∈ l, p = (a.id, b.id) ∧ m.need ≤ scoreM m a b := by
  unfold pairsA
  rw [List.mem_map]
  constructor
  · rintro ⟨b, hb, rfl⟩
    rw [List.mem_filter, decide_eq_true_iff] at hb
    exact ⟨b, hb.1, rfl, hb.2⟩
  · rintro ⟨b, hb, rfl, h2⟩
    refine ⟨b, ?_, rfl⟩
    rw [List.mem_filter, decide_eq_true_iff]
    exact ⟨hb, h2⟩
theorem mem_pairsP (m : MRule) : ∀ (P : List Rec), AscO ltI P → ∀ p, p ∈ pairsP m P ↔ ∃ a ∈ P, ∃ b ∈ P, p = (a.id, b.id) ∧ a.id < b.id ∧ m.need ≤ scoreM m a b
  | [], _, p => by simp [pairsP]
  | x :: P, h, p => by
    obtain ⟨h1, h2⟩ := List.pairwise_cons.1 h
    have hlt : ∀ b ∈ P, x.id < b.id := fun b hb => of_decide_eq_true (h1 b hb)
    rw [pairsP, List.mem_append, mem_pairsA, mem_pairsP m P h2 p]
    constructor
    · rintro (⟨b, hb, rfl, hs⟩ | ⟨a, ha, b, hb, rfl, hl, hs⟩)
      · exact ⟨x, List.mem_cons_self, b, List.mem_cons_of_mem _ hb, rfl, hlt b hb, hs⟩
      · exact ⟨a, List.mem_cons_of_mem _ ha, b, List.mem_cons_of_mem _ hb, rfl, hl, hs⟩
    · rintro ⟨a, ha, b, hb, rfl, hl, hs⟩
      rcases List.mem_cons.1 ha with ea | ha
      · rcases List.mem_cons.1 hb with eb | hb
        · rw [ea, eb] at hl
          omega
        · exact .inl ⟨b, hb, by rw [ea], by rw [← ea]; exact hs⟩
      · rcases List.mem_cons.1 hb with eb | hb
        · have := hlt a ha
          rw [eb] at hl
          omega
        · exact .inr ⟨a, ha, b, hb, rfl, hl, hs⟩
theorem asc_pairsP (m : MRule) : ∀ (P : List Rec), AscO ltI P → AscO ltP (pairsP m P)
  | [], _ => List.Pairwise.nil
  | x :: P, h => by
    obtain ⟨h1, h2⟩ := List.pairwise_cons.1 h
    have hlt : ∀ b ∈ P, x.id < b.id := fun b hb => of_decide_eq_true (h1 b hb)
    rw [pairsP]
    unfold AscO
    rw [List.pairwise_append]
    refine ⟨?_, asc_pairsP m P h2, fun p hp q hq => ?_⟩
    · unfold pairsA
      rw [List.pairwise_map]
      refine (List.Pairwise.filter _ h2).imp fun {a b} hab => ?_
      rw [ltP_iff]
      exact .inr ⟨rfl, of_decide_eq_true hab⟩
    · obtain ⟨b, _, rfl, _⟩ := (mem_pairsA m x P p).1 hp
      obtain ⟨a, ha, c, _, rfl, _⟩ := (mem_pairsP m P h2 q).1 hq
      rw [ltP_iff]
      exact .inl (hlt a ha)
theorem pairs_sorted (m : MRule) (l : List Rec) (h : (idsOf l).Nodup) (P : List Rec) (hp : P.Perm l) (hs : P.Pairwise fun a b => ltI b a = false) : pairsP m P = pairsM m l := by
  have hn : (idsOf P).Nodup := List.Perm.nodup (List.Perm.map (fun r : Rec => r.id) hp.symm) h
  have hA : AscO ltI P := by
    unfold AscO
    unfold idsOf at hn
    rw [List.nodup_iff_pairwise_ne, List.pairwise_map] at hn
    refine (List.Pairwise.and hs hn).imp fun {a b} ⟨h1, h2⟩ => ?_
    unfold ltI at *
    have h1 := of_decide_eq_false h1
    exact decide_eq_true (by omega)
  refine pairs_only m l h _ (asc_pairsP m P hA) fun p => ?_
  rw [mem_pairsP m P hA]
  unfold twosM
  rw [List.mem_flatMap]
  constructor
  · rintro ⟨a, ha, b, hb, e, hl, hs⟩
    exact ⟨a, hp.mem_iff.1 ha, (mem_twosA m a l p).2 ⟨b, hp.mem_iff.1 hb, e, hl, hs⟩⟩
  · rintro ⟨a, ha, hq⟩
    obtain ⟨b, hb, e, hl, hs⟩ := (mem_twosA m a l p).1 hq
    exact ⟨a, hp.mem_iff.2 ha, b, hp.mem_iff.2 hb, e, hl, hs⟩
end

section
open Go.RowKit Go.PlainAid
theorem nr_empty15 {B : Nat} {l : List (List UInt8)} {w : World} (h : NR B (.slice none 0 0) l w) : l = [] := by
  have hl : l.length = 0 := by
    rcases h.2 with ⟨_, h0⟩ | ⟨g, cap, cur, e0, _⟩
    · exact h0
    · cases e0
  exact List.eq_nil_of_length_eq_zero hl
/-- slices.Sort of a row of texts of the call's own. -/
theorem sortS15_any (B : Nat) (v : Value) (l : List (List UInt8)) (w : World) (h : NR B v l w) (hz : l.length ≤ 100000) :
    Calls Tryz.prog 63 #[v] w fun e w' => e = .returned (.tuple #[]) ∧ NR B v (sortT l) w' ∧ Below B w w' := by
  by_cases hv : v = .slice none 0 0
  · subst hv
    refine (Tryz.slices_Sort_string_none none 0 w).mono ?_
    rintro e w' ⟨he, hw⟩
    rw [hw]
    have h0 := nr_empty15 h
    subst h0
    rw [show sortT [] = [] from by unfold sortT; simp]
    exact ⟨he, h, Below.refl _ _⟩
  · obtain ⟨g, cap, rfl, hbg, hg, hn, hm, hl, hH⟩ := Lib.holds_of_ownsRow (enc := encStr) h hv
    refine (Tryz.slices_Sort_string g 0 cap l w hH hg (by omega)).mono ?_
    rintro e w' ⟨he, n, os, rfl⟩
    refine ⟨he, ?_, ?_⟩
    · rcases h.2 with ⟨e0, _⟩ | ⟨g', cap', cur, e0, hb, hbk, hc, hm2, hs, ht⟩
      · cases e0
      · obtain ⟨e1, -, e3⟩ := Value.slice.inj e0
        obtain rfl : g = g' := by simpa using e1
        subst e3
        have hlen : (sortT l).length = l.length := List.length_mergeSort _
        unfold NR
        rw [hlen]
        exact ownsRow_sorted (ss := l) (ts := sortT l) hlen hb hbk hc hm2 hs
    · exact (Below.refl B w).grown (grownBy_sorted _) (by omega) (fun k hk => by cases hk; exact hbg)
theorem compact_le15 (l : List (List UInt8)) : (Lib.compact l).length ≤ l.length := by
  unfold Lib.compact Lib.compactUpTo
  rw [List.length_map]
  have := List.length_filter_le (Lib.keeps l.toArray) (List.range l.length)
  rw [List.length_range] at this
  exact this
/-- slices.Compact of a row of texts of the call's own. -/
theorem compactS15_any (B : Nat) (v : Value) (l : List (List UInt8)) (w : World) (h : NR B v l w) (hz : l.length ≤ 100000) :
    Calls Tryz.prog 64 #[v] w fun e w' => ∃ v', e = .returned v' ∧ NR B v' (Lib.compact l) w' ∧ Below B w w' := by
  by_cases hv : v = .slice none 0 0
  · subst hv
    refine (Tryz.slices_Compact_string_empty none 0 w).mono ?_
    rintro e w' ⟨he, hw⟩
    rw [hw]
    have h0 := nr_empty15 h
    subst h0
    exact ⟨_, he, h, Below.refl _ _⟩
  · obtain ⟨g, cap, rfl, hbg, hg, hn, hm, hl, hH⟩ := Lib.holds_of_ownsRow (enc := encStr) h hv
    refine (Tryz.slices_Compact_string g 0 cap l w hH (by omega) hn).mono ?_
    rintro e w' ⟨he, q, rfl⟩
    have hcl := compact_le15 l
    refine ⟨_, he, ?_, Lib.below_putRow (Below.refl B w) hbg⟩
    have := Lib.ownsRow_putRow (enc := encStr) (q := q) (k := (Lib.compact l).length) (ys := Lib.compact l ++ List.replicate (l.length - (Lib.compact l).length) []) h (by simp; omega) hcl
    rw [List.take_left] at this
    exact this
set_option maxHeartbeats 4000000 in
theorem distinct15_any (B : Nat) (v : Value) (l : List (List UInt8)) (w : World) (h : NR B v l w) (hz : l.length ≤ 100000) :
    Calls Tryz.prog 39 #[v] w fun e w' => ∃ v', e = .returned v' ∧ NR B v' (Lib.compact (sortT l)) w' ∧ Below B w w' := by
  have cS := Lib.hid (sortS15_any B v l w h hz)
  have hlen : (sortT l).length = l.length := List.length_mergeSort _
  have cC := Lib.hid (fun (W : World) (hW : NR B v (sortT l) W) => compactS15_any B v (sortT l) W hW (by omega))
  clear h hlen
  generalize Lib.compact (sortT l) = M at *
  generalize sortT l = K at *
  obtain ⟨Q, hQ⟩ : ∃ Q, (fun (e : Ending) (w' : World) => ∃ v', e = .returned v' ∧ NR B v' M w' ∧ Below B w w') = Q := ⟨_, rfl⟩
  rw [hQ]
  have HQ : RowKit.Hid (∀ v' W, NR B v' M W → Below B w W → Q (.returned v') W) := by rw [← hQ]; exact fun v W h k => ⟨v, rfl, h, k⟩
  clear hQ
  go_enter Tryz.func39, Tryz.ntmps39
  go_wp2_with fail
  refine cS.out.mono ?_
  rintro e w1 ⟨rfl, h1, hb1⟩
  have HB1 := Lib.hid hb1
  have cC1 := Lib.hid (cC.out w1 h1)
  clear h1 hb1 cS cC
  go_wp2_with fail
  refine cC1.out.mono ?_
  rintro e w2 ⟨v', rfl, h2, hb2⟩
  have HG := Lib.hid (HQ.out v' w2 h2 (HB1.out.trans hb2))
  clear h2 hb2 cC1
  go_wp2
  first | exact HG.out | (go_ret; exact HG.out)

theorem lt_of_cell15 {w : World} {p : Addr} {v : Value} (h : w.cell? p = some v) : p.block < w.heap.size := by
  rcases Nat.lt_or_ge p.block w.heap.size with h' | h'
  · exact h'
  · simp [World.cell?, Array.getElem?_eq_none h'] at h
theorem cell_same15 {w w' : World} {g i : Nat} (h : w'.heap[g]? = w.heap[g]?) : w'.cell? ⟨g, i, none⟩ = w.cell? ⟨g, i, none⟩ := by
  simp only [World.cell?, h]
theorem nr_opened15 {B : Nat} {v : Value} {A : List (List UInt8)} {w : World} (h : NR B v A w) : ∃ a cap g, v = .slice a A.length cap ∧ A.length ≤ cap ∧ cap ≤ maxLen ∧ (0 < A.length → a = some ⟨g, 0, none⟩ ∧ B ≤ g ∧ g < w.heap.size ∧ ∀ i, i < A.length → w.cell? ⟨g, i, none⟩ = some (strB (A.getD i []))) := by
  rcases h.2 with ⟨rfl, h0⟩ | ⟨g, cap, cur, rfl, hg0, hg, hc, hm, hsz, ht⟩
  · exact ⟨Option.none, 0, 0, by rw [h0], by omega, Nat.zero_le _, fun h => by omega⟩
  · refine ⟨_, cap, g, rfl, hc, hm, fun _ => ⟨rfl, hg0, (Array.getElem?_eq_some_iff.1 hg).1, fun i hi => ?_⟩⟩
    have := World.ownsRow.cells h (g := g) rfl i (strB (A.getD i [])) (by rw [List.getElem?_map, List.getD_eq_getElem?_getD, List.getElem?_eq_getElem hi]; rfl)
    have hadd : (⟨g, 0, Option.none⟩ : Addr).add i = ⟨g, i, Option.none⟩ := by unfold Addr.add; split <;> simp_all
    rw [hadd] at this
    exact this
/-- append of one text that has just been laid to such a row: the other blocks stay, and none of them is the row's. -/
theorem append_nrAt {ops : Array Oper} {rest : List Oper} {o : Oper} {a : Act} {Q : Exit → Act → World → Prop} (w : World) (hgd : o.guard = none) (s x : Operand)
    (ho : o.op = .call { callee := .builtin .append, args := #[s, x], argTypes := #[36, 36] })
    (B : Nat) (v : Value) (L : List (List UInt8)) (y : List UInt8) (hs : a.eval s = v) (h : NR B v L w) (hx : a.eval x = .slice (some ⟨w.heap.size, 0, none⟩) 1 1) (hz : L.length ≤ 10000000) (hB : B ≤ w.heap.size)
    (N : Nat) (W1 : World) (hNB : N ≤ B) (hb : Below N W1 w)
    (hk : ∀ v' w', NR B v' (L ++ [y]) w' → Below N W1 w' → B ≤ w'.heap.size → (∀ g, g < w.heap.size → v.ownBlock ≠ some g → w'.heap[g]? = w.heap[g]? ∧ v'.ownBlock ≠ some g ∧ g < w'.heap.size) → wpList Tryz.prog ops Q rest (a.put o.dst v') w') : wpList Tryz.prog ops Q (o :: rest) a (w.alloc (.cells #[strB y] 9)) := by
  obtain ⟨i0, hi, hz0, hz1, hz2⟩ := info_string
  have hrow := World.ownsRow.alloc h (.cells #[strB y] 9)
  refine wpList_append_own_at _ hgd s x 36 ho B 9 i0 (.string ⟨#[]⟩) 1 16 Tryz.underlying36 hi hz0 hz1 hz2 rfl (by decide) v L.length _ hs hrow ⟨w.heap.size, 0, none⟩ 1 1 [strB y] hx rfl (cells_one12 _ _ _) (by intro u hu; simp at hu; subst hu; rfl) (by unfold maxLen; omega) (by omega) (by simp; omega) ?_
  intro v2 w2 hown2 hg2 hn2 hat
  refine hk v2 w2 (by unfold NR; rw [List.length_append, List.map_append]; exact hown2) ?_ (Nat.le_trans (by simp; omega) hg2.size) ?_
  · exact (hb.alloc (by omega) _).grown hg2 (by simp; omega) (fun j hj => Nat.le_trans hNB (hrow.lt j hj).1)
  · intro g hg hne
    have hsz : (w.alloc (.cells #[strB y] 9)).heap.size = w.heap.size + 1 := by simp
    refine ⟨(hg2.block g (by omega) (fun e => hne e.symm)).trans (Below.heap_alloc _ _ g hg), ?_, ?_⟩
    · rcases hat with e | e
      · rw [e]; exact hne
      · rw [e, hsz]
        intro e2
        have := Option.some.inj e2
        omega
    · have := hg2.size
      omega

/-! The list as two loops build it. -/
def listP (k : MKey) (L : List Fld) (i : Nat) (Vs : List (List UInt8)) (j : Nat) : List (List UInt8) := (L.take i).flatMap (valsF k) ++ ((Vs.take j).map (normV k.norm)).filter fun v => decide (v ≠ [])
theorem in_one (c d : UInt8) : inB c [d] = decide (c = d) := by
  unfold inB
  simp [eq_comm]
theorem valsF_all (k : MKey) (f : Fld) : valsF k f = if f.tag = k.tag then ((allL f.subs [k.code]).map (normV k.norm)).filter (fun v => decide (v ≠ [])) else [] := by
  unfold valsF allL
  by_cases h : f.tag = k.tag
  · rw [if_pos h, if_pos h, List.map_map]
    congr 1
    have : (fun s : Sub => inB s.1 [k.code]) = fun s => decide (s.1 = k.code) := by funext s; exact in_one _ _
    rw [this]
    rfl
  · rw [if_neg h, if_neg h]
theorem listP_zero (k : MKey) (L : List Fld) (i : Nat) (Vs Us : List (List UInt8)) : listP k L i Vs 0 = listP k L i Us 0 := by
  unfold listP
  simp
theorem listP_start (k : MKey) (L : List Fld) : listP k L 0 [] 0 = [] := by
  unfold listP
  simp
theorem take_fld (L : List Fld) (i : Nat) (hi : i < L.length) : L.take (i + 1) = L.take i ++ [L.getD i fd0] := by
  rw [List.take_succ_eq_append_getElem hi, List.getD_eq_getElem?_getD, List.getElem?_eq_getElem hi]
  rfl
theorem listP_next (k : MKey) (L : List Fld) (i : Nat) (hi : i < L.length) (h : (L.getD i fd0).tag = k.tag) : listP k L i (allL (L.getD i fd0).subs [k.code]) (allL (L.getD i fd0).subs [k.code]).length = listP k L (i + 1) [] 0 := by
  unfold listP
  rw [List.take_length, take_fld L i hi, List.flatMap_append]
  generalize L.getD i fd0 = f at *
  simp [valsF_all k f, h]
theorem listP_other (k : MKey) (L : List Fld) (i : Nat) (hi : i < L.length) (h : (L.getD i fd0).tag ≠ k.tag) : listP k L i [] 0 = listP k L (i + 1) [] 0 := by
  unfold listP
  rw [take_fld L i hi, List.flatMap_append]
  generalize L.getD i fd0 = f at *
  simp [valsF_all k f, h]
theorem listP_step (k : MKey) (L : List Fld) (i : Nat) (Vs : List (List UInt8)) (j : Nat) (hj : j < Vs.length) : listP k L i Vs (j + 1) = listP k L i Vs j ++ if normV k.norm (Vs.getD j []) = [] then [] else [normV k.norm (Vs.getD j [])] := by
  have e : Vs.take (j + 1) = Vs.take j ++ [Vs.getD j []] := by
    rw [List.take_succ_eq_append_getElem hj, List.getD_eq_getElem?_getD, List.getElem?_eq_getElem hj]
    rfl
  unfold listP
  rw [e, List.map_append, List.filter_append, ← List.append_assoc]
  congr 1
  generalize Vs.getD j [] = x
  by_cases h : normV k.norm x = []
  · rw [if_pos h]; simp [h]
  · rw [if_neg h]; simp [h]
theorem listP_end (k : MKey) (r : Rec) : listP k r.fields r.fields.length [] 0 = valsK k r := by
  unfold listP valsK
  rw [List.take_length]
  simp
theorem listP_len (k : MKey) (L : List Fld) (i : Nat) (Vs : List (List UInt8)) (j : Nat) (h : ∀ f ∈ L, f.subs.length ≤ 20) (hL : L.length ≤ 70) (hV : Vs.length ≤ 20) : (listP k L i Vs j).length ≤ 2000 := by
  unfold listP
  have h2 := flat_len k (L.take i) fun f hf => h f (List.mem_of_mem_take hf)
  have h3 := List.length_filter_le (fun v : List UInt8 => decide (v ≠ [])) ((Vs.take j).map (normV k.norm))
  rw [List.length_map, List.length_take] at h3
  rw [List.length_take] at h2
  rw [List.length_append]
  omega

set_option maxHeartbeats 32000000 in
set_option maxRecDepth 100000 in
theorem pKeys_any (k : MKey) (hk0 : 0 ≤ k.norm) (hk4 : k.norm ≤ 4) (r : Rec) (u : Value) (w : World) (hE : Env w) (hu : FL u r.fields w) (ho : okR r) :
    Calls Tryz.prog 17 #[KV k, RV r u] w fun e w' => ∃ v, e = .returned v ∧ NR w.heap.size v (keysM k r) w' ∧ Below w.heap.size w w' := by
  obtain ⟨Q, hQ⟩ : ∃ Q, (fun (e : Ending) (w' : World) => ∃ v, e = .returned v ∧ NR w.heap.size v (keysM k r) w' ∧ Below w.heap.size w w') = Q := ⟨_, rfl⟩
  rw [hQ]
  obtain ⟨V0, hV0⟩ : ∃ V0, (w.alloc (.cells #[.string (S k.tag), .int .u8 (k.code.toNat : Int), .int .i64 k.norm, .int .i64 k.weight] 39)).alloc (.cells #[.int .i64 r.id, .int .i64 r.ver, .int .i64 r.kind, .string (S r.lang), u] 33) = V0 := ⟨_, rfl⟩
  have b0 : Below w.heap.size w V0 := by rw [← hV0]; exact ((Below.refl w.heap.size w).alloc (Nat.le_refl _) _).alloc (by simp) _
  have hK0 : V0.heap[w.heap.size]? = some (.cells #[.string (S k.tag), .int .u8 (k.code.toNat : Int), .int .i64 k.norm, .int .i64 k.weight] 39 (0, 0)) := by
    rw [← hV0]
    exact (Below.heap_alloc _ _ _ (by simp)).trans (heap_alloc_new w _)
  have hR0 : V0.heap[w.heap.size + 1]? = some (.cells #[.int .i64 r.id, .int .i64 r.ver, .int .i64 r.kind, .string (S r.lang), u] 33 (0, 0)) := by
    rw [← hV0]
    have := heap_alloc_new (w.alloc (.cells #[.string (S k.tag), .int .u8 (k.code.toNat : Int), .int .i64 k.norm, .int .i64 k.weight] 39)) (.cells #[.int .i64 r.id, .int .i64 r.ver, .int .i64 r.kind, .string (S r.lang), u] 33)
    simpa using this
  have hsz0 : V0.heap.size = w.heap.size + 2 := by rw [← hV0]; simp
  obtain ⟨W0, hW0⟩ : ∃ W0, V0.alloc (.cells #[.int .u8 (k.code.toNat : Int)] 5) = W0 := ⟨_, rfl⟩
  have b1 : Below V0.heap.size V0 W0 := by rw [← hW0]; exact (Below.refl V0.heap.size V0).alloc (Nat.le_refl _) _
  have b01 : Below w.heap.size w W0 := b0.trans (b1.mono b0.size)
  have hstr : (convert 65 9 (.slice (some ⟨V0.heap.size, 0, none⟩) 1 1)).run Tryz.prog (V0.alloc (.cells #[.int .u8 (k.code.toNat : Int)] 5)) = .ok (.string (S [k.code])) (V0.alloc (.cells #[.int .u8 (k.code.toNat : Int)] 5)) := (Byt.one V0 k.code).str
  have hK : W0.heap[w.heap.size]? = some (.cells #[.string (S k.tag), .int .u8 (k.code.toNat : Int), .int .i64 k.norm, .int .i64 k.weight] 39 (0, 0)) := (b1.block _ (by omega)).trans hK0
  have hR : W0.heap[w.heap.size + 1]? = some (.cells #[.int .i64 r.id, .int .i64 r.ver, .int .i64 r.kind, .string (S r.lang), u] 33 (0, 0)) := (b1.block _ (by omega)).trans hR0
  have hsz1 : W0.heap.size = w.heap.size + 3 := by rw [← hW0]; simp; omega
  have HK := Lib.hid (fun (W : World) (h : Below W0.heap.size W0 W) => (h.block w.heap.size (by omega)).trans hK)
  have HR := Lib.hid (fun (W : World) (h : Below W0.heap.size W0 W) => (h.block (w.heap.size + 1) (by omega)).trans hR)
  have HU := Lib.hid (fun (W : World) (h : Below W0.heap.size W0 W) => hu.after (b01.trans (h.mono b01.size)))
  have HE := Lib.hid (fun (W : World) (h : Below W0.heap.size W0 W) => hE.after (b01.trans (h.mono b01.size)))
  have HEnd : RowKit.Hid (∀ v W, NR W0.heap.size v (Lib.compact (sortT (listP k r.fields r.fields.length [] 0))) W → Below W0.heap.size W0 W → Q (.returned v) W) := by
    intro v W h1 h2
    rw [← hQ]
    rw [listP_end, keys_sorted] at h1
    exact ⟨v, rfl, nr_base15 h1 b01.size, b01.trans (h2.mono b01.size)⟩
  have HN0 : RowKit.Hid (NR W0.heap.size (.slice none 0 0) (listP k r.fields 0 [] 0) W0) := by
    unfold RowKit.Hid
    rw [listP_start]
    exact NR.none _ _
  have HV0 := Lib.hid hV0
  have HW0 := Lib.hid hW0
  obtain ⟨a, cp, hua, hcap, hmax⟩ := hu.length
  unfold maxLen at hmax
  subst hua
  have HLen := Lib.hid (fun i Vs j (hV : Vs.length ≤ 20) => listP_len k r.fields i Vs j ho.subs ho.len hV)
  have HNx := Lib.hid (fun i (h : i < r.fields.length) => listP_next k r.fields i h)
  have HOt := Lib.hid (fun i (h : i < r.fields.length) => listP_other k r.fields i h)
  have HSt := Lib.hid (fun i Vs j (h : j < Vs.length) => listP_step k r.fields i Vs j h)
  have HZ := Lib.hid (fun i Vs Us => listP_zero k r.fields i Vs Us)
  have HOk := Lib.hid (fun i (h : i < r.fields.length) => show ((r.fields.getD i fd0).subs.length ≤ 20 ∧ ∀ x ∈ allL (r.fields.getD i fd0).subs [k.code], x.length ≤ 300 ∧ validT x = true) from by
    have hm := getD_mem15 r.fields fd0 i h
    refine ⟨ho.subs _ hm, fun x hx => ?_⟩
    obtain ⟨s, hs, rfl⟩ := List.mem_map.1 hx
    exact ho.vals _ hm s (List.mem_filter.1 hs).1)
  have cN := Lib.hid (fun (x : List UInt8) (hx : x.length ≤ 300 ∧ validT x = true) (W : World) (hW : Env W) => mchanged_any k.norm x hk0 hk4 hx.2 (by omega) W hW)
  have cD := Lib.hid (fun (v : Value) (W : World) (h : NR W0.heap.size v (listP k r.fields r.fields.length [] 0) W) => distinct15_any W0.heap.size v _ W h (by have := HLen.out r.fields.length [] 0 (by simp); omega))
  have hRB := Lib.hid (Below.refl W0.heap.size W0)
  obtain ⟨x0, x1, x2, x3⟩ := kcells4 hK0
  have HTe := Lib.hid (fun t => eq_S15 t k.tag)
  have cAl := Lib.hid (fun (f : Fld) (x : Value) (W : World) (h : QL x f.subs W) (hs : f.subs.length ≤ 100000) => fAll_any f x W h [k.code] hs)
  unfold KV RV
  clear hQ hu hV0 hW0 hK hR hK0 hR0 b0 b1 b01 hsz0 hsz1 ho hE hk0 hk4
  generalize S k.tag = kt at *
  generalize k.code.toNat = kc at *
  generalize S [k.code] = sc at *
  generalize S r.lang = lg at *
  generalize hL : r.fields = L at *
  clear hL
  generalize hn : L.length = n at *
  have HN := Lib.hid hn
  clear hn
  go_enter Tryz.func17, Tryz.ntmps17
  go_upto_region 1 with fail
  rw [HV0.out]
  clear HV0
  go_upto_region 2 with fail
  rw [HW0.out]
  clear HW0 x0 x1 x2 x3 hstr
  have y4 := rcell5 (HR.out W0 hRB.out)
  go_wp2
  clear y4
  go_loopw [6, 8, 10, 11, 19] (fun s6 _ _ _ s19 wr => ∃ i : Nat, s19 = .int .i64 (i : Int) ∧ i ≤ n ∧ RowKit.Hid (NR W0.heap.size s6 (listP k L i [] 0) wr) ∧ RowKit.Hid (Below W0.heap.size W0 wr)) (fun _ _ _ _ s19 _ => n - (intOf s19).toNat)
  case atStart => exact ⟨0, rfl, Nat.zero_le _, HN0.out, hRB.out⟩
  case round =>
    obtain ⟨i, rfl, hi, HI, HB⟩ := hrel
    clear HN0 hRB
    have i1 : (0 : Int) ≤ (i : Int) := by omega
    by_cases hin : i < n
    · have i2 : (i : Int) < (n : Int) := by omega
      obtain ⟨g, o, cap', x, he, hg, c0, c1, c2, c3, hq⟩ := (HU.out wr HB.out).at i (by rw [HN.out]; exact hin)
      obtain ⟨rfl, -, rfl⟩ := Value.slice.inj he
      obtain ⟨au, cu, hxu, hcu, hmu⟩ := hq.length
      subst hxu
      obtain ⟨hs20, hval⟩ := HOk.out i hin
      have HNi := Lib.hid (HNx.out i hin)
      have HOi := Lib.hid (HOt.out i hin)
      obtain ⟨f, hf⟩ : ∃ f, L.getD i fd0 = f := ⟨_, rfl⟩
      rw [hf] at c0 c1 c2 c3 hq hs20 hval HNi HOi hcu
      obtain ⟨wb, hwb⟩ : ∃ wb, wr.alloc (.cells #[.string (S f.tag), .string (S f.ind), .slice au f.subs.length cu, .int .i64 f.auth] 57) = wb := ⟨_, rfl⟩
      obtain ⟨bx, hbx⟩ : ∃ bx, wr.heap.size = bx := ⟨_, rfl⟩
      have hF : wb.heap[bx]? = some (.cells #[.string (S f.tag), .string (S f.ind), .slice au f.subs.length cu, .int .i64 f.auth] 57 (0, 0)) := by rw [← hwb, ← hbx]; exact heap_alloc_new wr _
      have hbb : Below wr.heap.size wr wb := by rw [← hwb]; exact (Below.refl _ _).alloc (Nat.le_refl _) _
      have HBb := Lib.hid (HB.out.trans (hbb.mono HB.out.size))
      have HIb := Lib.hid (HI.out.after hbb)
      have cA := Lib.hid (cAl.out f _ wb (hq.after hbb) (by omega))
      have HWb := Lib.hid hwb
      have HBx := Lib.hid hbx
      have HVal := Lib.hid hval
      have hte := HTe.out f.tag
      obtain ⟨y0, y1, y2, y3⟩ := kcells4 hF
      obtain ⟨q0, q1, q2, q3⟩ := kcells4 (HK.out wb HBb.out)
      have hVl : (allL f.subs [k.code]).length ≤ 20 := Nat.le_trans (allL_length _ _) hs20
      unfold FV at cA
      clear hf hq he hF hbb hwb hbx hval HI HB
      generalize f.subs.length = m at *
      go_upto_region 6 with fail
      rw [HWb.out, HBx.out]
      clear HWb HBx c0 c1 c2 c3
      by_cases htag : f.tag = k.tag
      · have HNj := Lib.hid (HNi.out htag)
        rw [decide_eq_true htag] at hte
        obtain ⟨Vs, hVs⟩ : ∃ Vs, allL f.subs [k.code] = Vs := ⟨_, rfl⟩
        rw [hVs] at cA HVal HNj hVl
        clear htag HNi HOi hVs
        obtain ⟨nv, hnv⟩ : ∃ nv, Vs.length = nv := ⟨_, rfl⟩
        have HNv := Lib.hid hnv
        generalize S f.tag = ft at *
        generalize S f.ind = fi at *
        go_wp2_with fail
        refine cA.out.mono ?_
        rintro e w3 ⟨v3, rfl, hv3, hb3⟩
        have HB3 := Lib.hid (HBb.out.trans (hb3.mono HBb.out.size))
        have HI3 : RowKit.Hid (NR W0.heap.size u6 (listP k L i Vs 0) w3) := by
          unfold RowKit.Hid
          rw [HZ.out i Vs []]
          exact HIb.out.after hb3
        obtain ⟨av, cv, gv, rfl, hcv, hmv, hav⟩ := nr_opened15 hv3
        unfold maxLen at hmv
        rw [hnv] at hcv hav ⊢
        rw [hnv] at HNj hVl
        have hav1 : 0 < nv → av = some ⟨gv, 0, none⟩ := fun h => (hav h).1
        have HX3 : RowKit.Hid (0 < nv → gv < w3.heap.size ∧ u6.ownBlock ≠ some gv ∧ ∀ j, j < nv → w3.cell? ⟨gv, j, none⟩ = some (strB (Vs.getD j []))) := by
          intro h
          obtain ⟨-, h1, h2, h3⟩ := hav h
          refine ⟨h2, fun e => ?_, h3⟩
          have := (World.ownsRow.lt HIb.out gv e).2
          omega
        clear hv3 hb3 hav HIb HBb cA y0 y1 y2 y3 q0 q1 q2 q3 hnv hte
        go_wp2
        go_loopw [6, 10, 11, 32] (fun s6 _ _ s32 wr => ∃ j : Nat, s32 = .int .i64 (j : Int) ∧ j ≤ nv ∧ RowKit.Hid (NR W0.heap.size s6 (listP k L i Vs j) wr) ∧ RowKit.Hid (Below W0.heap.size W0 wr) ∧ RowKit.Hid (0 < nv → gv < wr.heap.size ∧ s6.ownBlock ≠ some gv ∧ ∀ j, j < nv → wr.cell? ⟨gv, j, none⟩ = some (strB (Vs.getD j [])))) (fun _ _ _ s32 _ => nv - (intOf s32).toNat)
        case atStart => exact ⟨0, rfl, Nat.zero_le _, HI3.out, HB3.out, HX3.out⟩
        case round =>
          obtain ⟨j, rfl, hj, HJ, HBj, HC⟩ := hrel
          clear HI3 HB3 HX3
          have j1 : (0 : Int) ≤ (j : Int) := by omega
          by_cases hjv : j < nv
          · have j2 : (j : Int) < (nv : Int) := by omega
            obtain rfl := hav1 (by omega)
            obtain ⟨hlt, hob, hcs⟩ := HC.out (by omega)
            have c0 := hcs j hjv
            have hsn := HSt.out i Vs j (by rw [HNv.out]; exact hjv)
            have hln := HLen.out i Vs j (by rw [HNv.out]; exact hVl)
            have hxm : Vs.getD j [] ∈ Vs := getD_mem15 Vs [] j (by rw [HNv.out]; exact hjv)
            have HCa := Lib.hid (fun (W : World) (h : Below wr.heap.size wr W) => show gv < W.heap.size ∧ u6.ownBlock ≠ some gv ∧ ∀ j, j < nv → W.cell? ⟨gv, j, none⟩ = some (strB (Vs.getD j [])) from ⟨Nat.lt_of_lt_of_le hlt h.size, hob, fun q hq => (h.cell (p := ⟨gv, q, none⟩) hlt).trans (hcs q hq)⟩)
            obtain ⟨x, hx⟩ : ∃ x, Vs.getD j [] = x := ⟨_, rfl⟩
            rw [hx] at c0 hsn hxm
            have cC := Lib.hid (cN.out x (HVal.out x hxm) wr (HE.out wr HBj.out))
            obtain ⟨q0, q1, q2, q3⟩ := kcells4 (HK.out wr HBj.out)
            obtain ⟨nw, hnw⟩ : ∃ nw, normV k.norm x = nw := ⟨_, rfl⟩
            rw [hnw] at cC hsn
            obtain ⟨M, hM⟩ : ∃ M, listP k L i Vs j = M := ⟨_, rfl⟩
            rw [hM] at HJ hsn hln
            have HSn := Lib.hid hsn
            unfold strB at c0
            clear hsn hxm hx hnw hM HC hlt hob hcs
            generalize S x = sx at *
            go_wp2_with fail
            refine cC.out.mono ?_
            rintro e w5 ⟨rfl, hb5⟩
            have HB5 := Lib.hid (HBj.out.trans (hb5.mono HBj.out.size))
            have HJ5 := Lib.hid (HJ.out.after hb5)
            have HC5 := Lib.hid (HCa.out w5 hb5)
            clear hb5 HBj HJ cC HCa c0 q0 q1 q2 q3
            by_cases hne : nw = []
            · have hs2 := HSn.out
              rw [if_pos hne, List.append_nil] at hs2
              have HS2 := Lib.hid hs2
              have ee : (S nw).toList.isEmpty = true ∧ (S nw).toList = [] := by rw [hne, ByteArray.toList_eq]; exact ⟨rfl, rfl⟩
              obtain ⟨e1, e2⟩ := ee
              clear hs2 hne HSn
              generalize S nw = sn at *
              go_wp2
              go_roundw
              case rel => exact ⟨j + 1, by go_num, by omega, by rw [HS2.out]; exact HJ5.out, HB5.out, fun _ => HC5.out⟩
              case measure => simp [intOf]; omega
            · have hs2 := HSn.out
              rw [if_neg hne] at hs2
              have HS2 := Lib.hid hs2
              obtain ⟨z1, z2⟩ := S_facts nw hne
              have hsz := HB5.out.size
              clear hs2 hne HSn
              go_wp2_with (at_builtin; refine append_nrAt _ rfl _ _ rfl W0.heap.size u6 M nw rfl HJ5.out rfl (by omega) hsz W0.heap.size W0 (Nat.le_refl _) HB5.out ?_)
              intro v7 w7 h7 hb7 _ hg7
              have HJ7 := Lib.hid h7
              have HB7 := Lib.hid hb7
              have HC7 : RowKit.Hid (gv < w7.heap.size ∧ v7.ownBlock ≠ some gv ∧ ∀ j, j < nv → w7.cell? ⟨gv, j, none⟩ = some (strB (Vs.getD j []))) := by
                obtain ⟨k1, k2, k3⟩ := HC5.out
                obtain ⟨j1, j2, j3⟩ := hg7 gv k1 k2
                exact ⟨j3, j2, fun q hq => (cell_same15 j1).trans (k3 q hq)⟩
              clear h7 hb7 hg7 HJ5 HB5 HC5
              go_wp2
              go_roundw
              case rel => exact ⟨j + 1, by go_num, by omega, by rw [HS2.out]; exact HJ7.out, HB7.out, fun _ => HC7.out⟩
              case measure => simp [intOf]; omega
          · obtain rfl : j = nv := by omega
            rw [HNj.out] at HJ
            go_wp2
            go_roundw
            case rel => exact ⟨i + 1, by go_num, by omega, HJ.out, HBj.out⟩
            case measure => simp [intOf]; omega
      · have HJ : RowKit.Hid (NR W0.heap.size u6 (listP k L (i + 1) [] 0) wb) := by
          unfold RowKit.Hid
          rw [← HOi.out htag]
          exact HIb.out
        rw [decide_eq_false htag] at hte
        clear htag HNi HOi HIb cA
        generalize S f.tag = ft at *
        go_wp2
        go_roundw
        case rel => exact ⟨i + 1, by go_num, by omega, HJ.out, HBb.out⟩
        case measure => simp [intOf]; omega
    · obtain rfl : i = n := by omega
      have cE := Lib.hid (cD.out u6 wr HI.out)
      clear cD HI HOk HNx HOt HSt HLen
      go_wp2_with fail
      refine cE.out.mono ?_
      rintro e w5 ⟨v5, rfl, h5, hb5⟩
      have HG := Lib.hid (HEnd.out v5 w5 h5 (HB.out.trans hb5))
      clear h5 hb5 cE
      go_wp2
      first | exact HG.out | (go_ret; exact HG.out)
end

section
open Go.RowKit
/-- What an operation yields, as long as the world only turns by R. -/
structure SPR (R : World → World → Prop) where
  p : Value → World → Prop
  st : ∀ v w w', p v w → R w w' → p v w'
def SPR.any (R : World → World → Prop) : SPR R := ⟨fun _ _ => True, fun _ _ _ _ _ => trivial⟩
def SPR.eq (R : World → World → Prop) (x : Value) : SPR R := ⟨fun v _ => v = x, fun _ _ _ h _ => h⟩

section
variable (R : World → World → Prop) (P : Program) (Q : Exit → Act → World → Prop) (ops : Array Oper) (A : (Nat → Value) → Act) (w0 : World) (V : List (SPR R))
def ObR (k : Nat) (o : Oper) : Prop :=
  ∀ (vs : Nat → Value) (w : World), R w0 w → (∀ j, depB o j = true → (V.getD j (SPR.any R)).p (vs j) w) → ∀ K : Act → World → Prop,
    RowKit.Hid (∀ v w', (V.getD k (SPR.any R)).p v w' → R w w' → K ((A vs).put o.dst v) w') →
    if Region.wanted o (yielded ops (A vs).tmps) = true then Oper.wp P o (A vs) w K Q else K ((A vs).put o.dst undef) w
def ObsR : List Oper → Nat → Prop
  | [], _ => True
  | o :: r, k => ObR R P Q ops A w0 V k o ∧ ObsR r (k + 1)
theorem ObsR.at : ∀ (r : List Oper) (k m : Nat) (o : Oper), ObsR R P Q ops A w0 V r k → r[m]? = some o → ObR R P Q ops A w0 V (k + m) o
  | [], _, _, _, _, h => by cases h
  | o' :: r, k, 0, o, hO, h => by
    obtain rfl : o' = o := by simpa using h
    exact hO.1
  | o' :: r, k, m + 1, o, hO, h => by
    have := ObsR.at r (k + 1) m o hO.2 (by simpa using h)
    rwa [show k + 1 + m = k + (m + 1) by omega] at this
theorem ObsR.nil {k : Nat} : ObsR R P Q ops A w0 V [] k := trivial
theorem ObsR.cons {o : Oper} {r : List Oper} {k : Nat} (h : ObR R P Q ops A w0 V k o) (t : ObsR R P Q ops A w0 V r (k + 1)) : ObsR R P Q ops A w0 V (o :: r) k := ⟨h, t⟩
end
theorem ready_all {ops : Array Oper} (hb : backB ops.toList 0 = true) {l : Array Bool} (hl : l.size = ops.size) (hr : Region.ready .any ops l = []) : ∀ k, k < ops.size → l.getD k false = true := by
  intro k
  induction k using Nat.strongRecOn with
  | ind k ih =>
    intro hk'
    cases hlk : l.getD k false with
    | true => rfl
    | false =>
      exfalso
      have : k ∈ Region.ready .any ops l := by
        rw [mem_ready]
        refine ⟨?_, ops[k], Array.getElem?_eq_getElem hk', fun e he hx => ?_⟩
        · have : k < l.size := by omega
          simpa [this] using hlk
        · have := back_at ops.toList 0 k ops[k] hb (by simp [hk']) e he hx
          exact ih e.on (by omega) (by omega)
      rw [hr] at this
      cases this

theorem wp_region_rel {P : Program} {id : Nat} {ops : Array Oper} {Q : Exit → Act → World → Prop} {a0 : Act} {w0 : World} (R : World → World → Prop) (htrans : ∀ u v w, R u v → R v w → R u w) (hdrew : R w0 w0.drew)
    (V : List (SPR R)) (A : (Nat → Value) → Act)
    (hm : P.follows .mixedOrders = true) (hd : distinctB ops.toList = true) (hb : backB ops.toList 0 = true) (hA : ∀ vs, puts ops.toList vs 0 a0 = A vs)
    (hob : ObsR R P Q ops A w0 V ops.toList 0)
    (hfin : ∀ vs w, R w0 w → (∀ k, k < ops.size → (V.getD k (SPR.any R)).p (vs k) w) → Q .normal (A vs) w) :
    (Code.region id ops true).wp P Q a0 w0 := by
  refine wp_region_any hm ?_
  refine wpAny_inv (I := fun l a w => l.size = ops.size ∧ ∃ vs, a = A vs ∧ R w0 w ∧ ∀ k, l.getD k false = true → (V.getD k (SPR.any R)).p (vs k) w) (fun l a w h => h.1) ?_ ?_ _ _ _ _ ?_ ?_
  · rintro l a w i ⟨hl, vs, rfl, hw, hk⟩ hi
    obtain ⟨h0, o, ho, hall⟩ := mem_ready.1 hi
    have hO := ObsR.at R P Q ops A w0 V ops.toList 0 i o hob (by simpa using ho)
    rw [Nat.zero_add] at hO
    have hput : ∀ v, (A vs).put o.dst v = A (upd vs i v) := fun v => by
      rw [← hA, ← hA, puts_upd ops.toList vs 0 i a0 o v hd (by simpa using ho), Nat.zero_add]
    have hst := hO vs w hw (fun j hj => by
      unfold depB at hj
      rw [Array.any_eq_true'] at hj
      obtain ⟨e, he, hx⟩ := hj
      rw [Bool.and_eq_true, decide_eq_true_eq] at hx
      obtain ⟨hx, rfl⟩ := hx
      exact hk _ (hall e he hx)) (fun a' w' => (l.setIfInBounds i true).size = ops.size ∧ ∃ vs, a' = A vs ∧ R w0 w' ∧ ∀ k, (l.setIfInBounds i true).getD k false = true → (V.getD k (SPR.any R)).p (vs k) w')
      (by
        intro v w' hv hbw
        refine ⟨by simpa using hl, upd vs i v, hput v, htrans _ _ _ hw hbw, fun k hk' => ?_⟩
        by_cases hki : k = i
        · subst hki
          have e : upd vs k v k = v := by simp [upd]
          rw [e]
          exact hv
        · have e : upd vs i v k = vs k := by unfold upd; rw [if_neg hki]
          rw [e]
          refine (V.getD k (SPR.any R)).st _ _ _ (hk k ?_) hbw
          rwa [getD_set_ne false (Ne.symm hki)] at hk')
    unfold wpOp
    simp only [ho]
    split
    · rename_i hw'
      rw [if_pos hw'] at hst
      exact .inl hst
    · rename_i hw'
      rw [if_neg hw'] at hst
      exact hst
  · rintro l a w ⟨hl, vs, rfl, hw, hk⟩ hr
    exact hfin vs w hw (fun k hk' => hk k (ready_all hb hl hr k hk'))
  · have : ∀ n : Nat, (List.replicate n false).count false = n := fun n => by simp
    simp
  · obtain ⟨vs, hvs⟩ := puts_self ops.toList 0 a0
    refine ⟨by simp, vs, by rw [← hA, hvs], hdrew, fun k hk => ?_⟩
    by_cases h : k < ops.size
    · simp [h] at hk
    · simp [h] at hk

/-- Does operation k wait for j, by way of others too? -/
def reachB (ops : Array Oper) : Nat → Nat → Nat → Bool
  | 0, _, _ => false
  | f + 1, k, j => match ops[k]? with
    | none => false
    | some o => depB o j || (List.range k).any fun m => depB o m && reachB ops f m j
/-- Does the last operation wait for all others? -/
def lastB (ops : Array Oper) (f n : Nat) : Bool := decide (n + 1 = ops.size) && (List.range n).all fun j => reachB ops f n j
theorem dep_done {o : Oper} {l : Array Bool} (h : ∀ e, e ∈ o.after → Region.binds .any e = true → l.getD e.on false = true) {j : Nat} (hj : depB o j = true) : l.getD j false = true := by
  unfold depB at hj
  rw [Array.any_eq_true'] at hj
  obtain ⟨e, he, hx⟩ := hj
  rw [Bool.and_eq_true, decide_eq_true_eq] at hx
  obtain ⟨hx, rfl⟩ := hx
  exact h e he hx
theorem reach_done {ops : Array Oper} {l : Array Bool} (hc : ∀ k o, ops[k]? = some o → l.getD k false = true → ∀ e, e ∈ o.after → Region.binds .any e = true → l.getD e.on false = true) :
    ∀ (f k j : Nat) (o : Oper), ops[k]? = some o → (∀ e, e ∈ o.after → Region.binds .any e = true → l.getD e.on false = true) → reachB ops f k j = true → l.getD j false = true
  | 0, _, _, _, _, _, h => by cases h
  | f + 1, k, j, o, ho, hd, h => by
    rw [reachB, ho] at h
    simp only [Bool.or_eq_true, List.any_eq_true, Bool.and_eq_true] at h
    rcases h with h | ⟨m, _, h1, h2⟩
    · exact dep_done hd h
    · have hm := dep_done hd h1
      cases hom : ops[m]? with
      | none => 
        cases f with
        | zero => cases h2
        | succ f => rw [reachB, hom] at h2; cases h2
      | some o2 => exact reach_done hc f m j o2 hom (hc m o2 hom hm) h2

theorem wp_region_last {P : Program} {id : Nat} {ops : Array Oper} {Q : Exit → Act → World → Prop} {a0 : Act} {w0 : World} (R : World → World → Prop) (htrans : ∀ u v w, R u v → R v w → R u w) (hdrew : R w0 w0.drew)
    (V : List (SPR R)) (A : (Nat → Value) → Act) (n f : Nat) (ol : Oper)
    (hm : P.follows .mixedOrders = true) (hd : distinctB ops.toList = true) (hb : backB ops.toList 0 = true) (hA : ∀ vs, puts ops.toList vs 0 a0 = A vs)
    (hlast : lastB ops f n = true) (hol : ops[n]? = some ol)
    (hob : ObsR R P Q ops A w0 V (ops.toList.take n) 0)
    (hfin : ∀ vs w, R w0 w → (∀ k, k < n → (V.getD k (SPR.any R)).p (vs k) w) →
      if Region.wanted ol (yielded ops (A vs).tmps) = true then Oper.wp P ol (A vs) w (fun a w' => Q .normal a w') Q else Q .normal ((A vs).put ol.dst undef) w) :
    (Code.region id ops true).wp P Q a0 w0 := by
  unfold lastB at hlast
  rw [Bool.and_eq_true, decide_eq_true_eq] at hlast
  obtain ⟨hn, hreach⟩ := hlast
  refine wp_region_any hm ?_
  refine wpAny_inv (I := fun l a w => l.size = ops.size ∧ ((l.getD n false = true ∧ (∀ k, k < ops.size → l.getD k false = true) ∧ Q .normal a w) ∨ (l.getD n false = false ∧ (∀ k o, ops[k]? = some o → l.getD k false = true → ∀ e, e ∈ o.after → Region.binds .any e = true → l.getD e.on false = true) ∧
    ∃ vs, a = A vs ∧ R w0 w ∧ ∀ k, l.getD k false = true → (V.getD k (SPR.any R)).p (vs k) w))) (fun l a w h => h.1) ?_ ?_ _ _ _ _ ?_ ?_
  · rintro l a w i ⟨hl, hI⟩ hi
    obtain ⟨h0, o, ho, hall⟩ := mem_ready.1 hi
    have hlt : i < ops.size := (Array.getElem?_eq_some_iff.1 ho).1
    have hif : l.getD i false = false := by
      have : i < l.size := by omega
      simpa [this] using h0
    rcases hI with ⟨_, hall2, _⟩ | ⟨hnf, hc, vs, rfl, hw, hk⟩
    · rw [hall2 i hlt] at hif
      cases hif
    by_cases hin : i = n
    · subst hin
      obtain rfl : o = ol := by rw [hol] at ho; exact (Option.some.inj ho).symm
      have hdone : ∀ j, j < i → l.getD j false = true := fun j hj => by
        have hr := List.all_eq_true.1 hreach j (List.mem_range.2 hj)
        exact reach_done hc f i j o ho (fun e he hx => hall e he hx) hr
      have hst := hfin vs w hw (fun k hk' => hk k (hdone k hk'))
      have hfin2 : ∀ a' w', Q .normal a' w' → (l.setIfInBounds i true).size = ops.size ∧ (((l.setIfInBounds i true).getD i false = true ∧ (∀ k, k < ops.size → (l.setIfInBounds i true).getD k false = true) ∧ Q .normal a' w') ∨ ((l.setIfInBounds i true).getD i false = false ∧ (∀ k o, ops[k]? = some o → (l.setIfInBounds i true).getD k false = true → ∀ e, e ∈ o.after → Region.binds .any e = true → (l.setIfInBounds i true).getD e.on false = true) ∧
          ∃ vs, a' = A vs ∧ R w0 w' ∧ ∀ k, (l.setIfInBounds i true).getD k false = true → (V.getD k (SPR.any R)).p (vs k) w')) := by
        intro a' w' hq
        have hself : (l.setIfInBounds i true).getD i false = true := by
          have : i < l.size := by omega
          simp [this]
        refine ⟨by simpa using hl, .inl ⟨hself, fun k hk' => ?_, hq⟩⟩
        by_cases hki : k = i
        · subst hki; exact hself
        · rw [getD_set_ne false (Ne.symm hki)]
          exact hdone k (by omega)
      unfold wpOp
      simp only [ho]
      split
      · rename_i hw'
        rw [if_pos hw'] at hst
        exact .inl (Oper.wp_mono (fun a' w' h => hfin2 a' w' h) hst)
      · rename_i hw'
        rw [if_neg hw'] at hst
        exact hfin2 _ _ hst
    · have hi2 : i < n := by omega
      have hO := ObsR.at R P Q ops A w0 V (ops.toList.take n) 0 i o hob (by rw [List.getElem?_take_of_lt hi2]; simpa using ho)
      rw [Nat.zero_add] at hO
      have hput : ∀ v, (A vs).put o.dst v = A (upd vs i v) := fun v => by
        rw [← hA, ← hA, puts_upd ops.toList vs 0 i a0 o v hd (by simpa using ho), Nat.zero_add]
      have hst := hO vs w hw (fun j hj => hk _ (dep_done (fun e he hx => hall e he hx) hj)) (fun a' w' => (l.setIfInBounds i true).size = ops.size ∧ (((l.setIfInBounds i true).getD n false = true ∧ (∀ k, k < ops.size → (l.setIfInBounds i true).getD k false = true) ∧ Q .normal a' w') ∨ ((l.setIfInBounds i true).getD n false = false ∧ (∀ k o, ops[k]? = some o → (l.setIfInBounds i true).getD k false = true → ∀ e, e ∈ o.after → Region.binds .any e = true → (l.setIfInBounds i true).getD e.on false = true) ∧
          ∃ vs, a' = A vs ∧ R w0 w' ∧ ∀ k, (l.setIfInBounds i true).getD k false = true → (V.getD k (SPR.any R)).p (vs k) w')))
        (by
          intro v w' hv hbw
          have hmono : ∀ j, l.getD j false = true → (l.setIfInBounds i true).getD j false = true := fun j hj => by
            by_cases hji : j = i
            · subst hji; rw [hj] at hif; cases hif
            · rw [getD_set_ne false (Ne.symm hji)]; exact hj
          refine ⟨by simpa using hl, .inr ⟨by rw [getD_set_ne false hin]; exact hnf, fun k o' ho' hk' e he hx => ?_, upd vs i v, hput v, htrans _ _ _ hw hbw, fun k hk' => ?_⟩⟩
          · by_cases hki : k = i
            · subst hki
              obtain rfl : o = o' := Option.some.inj (ho.symm.trans ho')
              exact hmono _ (hall e he hx)
            · rw [getD_set_ne false (Ne.symm hki)] at hk'
              exact hmono _ (hc k o' ho' hk' e he hx)
          · by_cases hki : k = i
            · subst hki
              have e : upd vs k v k = v := by simp [upd]
              rw [e]
              exact hv
            · have e : upd vs i v k = vs k := by unfold upd; rw [if_neg hki]
              rw [e]
              refine (V.getD k (SPR.any R)).st _ _ _ (hk k ?_) hbw
              rwa [getD_set_ne false (Ne.symm hki)] at hk')
      unfold wpOp
      simp only [ho]
      split
      · rename_i hw'
        rw [if_pos hw'] at hst
        exact .inl hst
      · rename_i hw'
        rw [if_neg hw'] at hst
        exact hst
  · rintro l a w ⟨hl, hI⟩ hr
    rcases hI with ⟨_, _, hq⟩ | ⟨hnf, _⟩
    · exact hq
    · rw [ready_all hb hl hr n (by omega)] at hnf
      cases hnf
  · simp
  · obtain ⟨vs, hvs⟩ := puts_self ops.toList 0 a0
    have hf : ∀ k, (Array.replicate ops.size false).getD k false = false := fun k => by
      by_cases h : k < ops.size
      · simp [h]
      · simp [h]
    refine ⟨by simp, .inr ⟨hf n, fun k _ _ hk => ?_, vs, by rw [← hA, hvs], hdrew, fun k hk => ?_⟩⟩
    · rw [hf k] at hk; cases hk
    · rw [hf k] at hk; cases hk
end

section
open Go.RowKit
abbrev VP := Value → World → Prop
def VP.any : VP := fun _ _ => True
def VP.eq (x : Value) : VP := fun v _ => v = x

section
variable (T : Nat → World → World → Prop) (R : Bool → World → Prop) (m : Nat) (P : Program) (Q : Exit → Act → World → Prop) (ops : Array Oper) (A : (Nat → Value) → Act) (V : List VP)
def ObF (k : Nat) (o : Oper) : Prop :=
  ∀ (vs : Nat → Value) (w : World) (b : Bool), (k = m → b = false) → R b w → (∀ j, depB o j = true → (V.getD j VP.any) (vs j) w) → ∀ K : Act → World → Prop,
    RowKit.Hid (∀ v w', (V.getD k VP.any) v w' → T k w w' → K ((A vs).put o.dst v) w') →
    if Region.wanted o (yielded ops (A vs).tmps) = true then Oper.wp P o (A vs) w K Q else K ((A vs).put o.dst undef) w
def ObsF : List Oper → Nat → Prop
  | [], _ => True
  | o :: r, k => ObF T R m P Q ops A V k o ∧ ObsF r (k + 1)
theorem ObsF.at : ∀ (r : List Oper) (k q : Nat) (o : Oper), ObsF T R m P Q ops A V r k → r[q]? = some o → ObF T R m P Q ops A V (k + q) o
  | [], _, _, _, _, h => by cases h
  | o' :: r, k, 0, o, hO, h => by
    obtain rfl : o' = o := by simpa using h
    exact hO.1
  | o' :: r, k, q + 1, o, hO, h => by
    have := ObsF.at r (k + 1) q o hO.2 (by simpa using h)
    rwa [show k + 1 + q = k + (q + 1) by omega] at this
theorem ObsF.nil {k : Nat} : ObsF T R m P Q ops A V [] k := trivial
theorem ObsF.cons {o : Oper} {r : List Oper} {k : Nat} (h : ObF T R m P Q ops A V k o) (t : ObsF T R m P Q ops A V r (k + 1)) : ObsF T R m P Q ops A V (o :: r) k := ⟨h, t⟩
end

theorem wp_region_fam {P : Program} {id : Nat} {ops : Array Oper} {Q : Exit → Act → World → Prop} {a0 : Act} {w0 : World} (T : Nat → World → World → Prop) (R : Bool → World → Prop) (m : Nat) (hR : ∀ k b u v, R b u → T k u v → R (b || decide (k = m)) v) (hdrew : R false w0.drew)
    (V : List VP) (A : (Nat → Value) → Act) (n f : Nat) (ol : Oper)
    (hst : ∀ j k, j ≠ k → ∀ v u w, (V.getD j VP.any) v u → T k u w → (V.getD j VP.any) v w)
    (hm : P.follows .mixedOrders = true) (hd : distinctB ops.toList = true) (hb : backB ops.toList 0 = true) (hA : ∀ vs, puts ops.toList vs 0 a0 = A vs)
    (hmn : m < n) (hlast : lastB ops f n = true) (hol : ops[n]? = some ol)
    (hob : ObsF T R m P Q ops A V (ops.toList.take n) 0)
    (hfin : ∀ vs w b, R b w → (∀ k, k < n → (V.getD k VP.any) (vs k) w) →
      if Region.wanted ol (yielded ops (A vs).tmps) = true then Oper.wp P ol (A vs) w (fun a w' => Q .normal a w') Q else Q .normal ((A vs).put ol.dst undef) w) :
    (Code.region id ops true).wp P Q a0 w0 := by
  unfold lastB at hlast
  rw [Bool.and_eq_true, decide_eq_true_eq] at hlast
  obtain ⟨hn, hreach⟩ := hlast
  refine wp_region_any hm ?_
  refine wpAny_inv (I := fun l a w => l.size = ops.size ∧ ((l.getD n false = true ∧ (∀ k, k < ops.size → l.getD k false = true) ∧ Q .normal a w) ∨ (l.getD n false = false ∧ (∀ k o, ops[k]? = some o → l.getD k false = true → ∀ e, e ∈ o.after → Region.binds .any e = true → l.getD e.on false = true) ∧
    ∃ vs, a = A vs ∧ R (l.getD m false) w ∧ ∀ k, l.getD k false = true → (V.getD k VP.any) (vs k) w))) (fun l a w h => h.1) ?_ ?_ _ _ _ _ ?_ ?_
  · rintro l a w i ⟨hl, hI⟩ hi
    obtain ⟨h0, o, ho, hall⟩ := mem_ready.1 hi
    have hlt : i < ops.size := (Array.getElem?_eq_some_iff.1 ho).1
    have hif : l.getD i false = false := by
      have : i < l.size := by omega
      simpa [this] using h0
    rcases hI with ⟨_, hall2, _⟩ | ⟨hnf, hc, vs, rfl, hw, hk⟩
    · rw [hall2 i hlt] at hif
      cases hif
    by_cases hin : i = n
    · subst hin
      obtain rfl : o = ol := by rw [hol] at ho; exact (Option.some.inj ho).symm
      have hdone : ∀ j, j < i → l.getD j false = true := fun j hj => by
        have hr := List.all_eq_true.1 hreach j (List.mem_range.2 hj)
        exact reach_done hc f i j o ho (fun e he hx => hall e he hx) hr
      have hst := hfin vs w _ hw (fun k hk' => hk k (hdone k hk'))
      have hfin2 : ∀ a' w', Q .normal a' w' → (l.setIfInBounds i true).size = ops.size ∧ (((l.setIfInBounds i true).getD i false = true ∧ (∀ k, k < ops.size → (l.setIfInBounds i true).getD k false = true) ∧ Q .normal a' w') ∨ ((l.setIfInBounds i true).getD i false = false ∧ (∀ k o, ops[k]? = some o → (l.setIfInBounds i true).getD k false = true → ∀ e, e ∈ o.after → Region.binds .any e = true → (l.setIfInBounds i true).getD e.on false = true) ∧
          ∃ vs, a' = A vs ∧ R ((l.setIfInBounds i true).getD m false) w' ∧ ∀ k, (l.setIfInBounds i true).getD k false = true → (V.getD k VP.any) (vs k) w')) := by
        intro a' w' hq
        have hself : (l.setIfInBounds i true).getD i false = true := by
          have : i < l.size := by omega
          simp [this]
        refine ⟨by simpa using hl, .inl ⟨hself, fun k hk' => ?_, hq⟩⟩
        by_cases hki : k = i
        · subst hki; exact hself
        · rw [getD_set_ne false (Ne.symm hki)]
          exact hdone k (by omega)
      unfold wpOp
      simp only [ho]
      split
      · rename_i hw'
        rw [if_pos hw'] at hst
        exact .inl (Oper.wp_mono (fun a' w' h => hfin2 a' w' h) hst)
      · rename_i hw'
        rw [if_neg hw'] at hst
        exact hfin2 _ _ hst
    · have hi2 : i < n := by omega
      have hO := ObsF.at T R m P Q ops A V (ops.toList.take n) 0 i o hob (by rw [List.getElem?_take_of_lt hi2]; simpa using ho)
      rw [Nat.zero_add] at hO
      have hput : ∀ v, (A vs).put o.dst v = A (upd vs i v) := fun v => by
        rw [← hA, ← hA, puts_upd ops.toList vs 0 i a0 o v hd (by simpa using ho), Nat.zero_add]
      have hst1 := hO vs w _ (fun e => by rw [← e]; exact hif) hw (fun j hj => hk _ (dep_done (fun e he hx => hall e he hx) hj)) (fun a' w' => (l.setIfInBounds i true).size = ops.size ∧ (((l.setIfInBounds i true).getD n false = true ∧ (∀ k, k < ops.size → (l.setIfInBounds i true).getD k false = true) ∧ Q .normal a' w') ∨ ((l.setIfInBounds i true).getD n false = false ∧ (∀ k o, ops[k]? = some o → (l.setIfInBounds i true).getD k false = true → ∀ e, e ∈ o.after → Region.binds .any e = true → (l.setIfInBounds i true).getD e.on false = true) ∧
          ∃ vs, a' = A vs ∧ R ((l.setIfInBounds i true).getD m false) w' ∧ ∀ k, (l.setIfInBounds i true).getD k false = true → (V.getD k VP.any) (vs k) w')))
        (by
          intro v w' hv hbw
          have hflag : ∀ u, R (l.getD m false || decide (i = m)) u → R ((l.setIfInBounds i true).getD m false) u := fun u h => by
            by_cases him : i = m
            · subst him
              have hself : (l.setIfInBounds i true).getD i false = true := by
                have : i < l.size := by omega
                simp [this]
              rw [hself]
              simpa using h
            · rw [getD_set_ne false him]
              simpa [him] using h
          have hmono : ∀ j, l.getD j false = true → (l.setIfInBounds i true).getD j false = true := fun j hj => by
            by_cases hji : j = i
            · subst hji; rw [hj] at hif; cases hif
            · rw [getD_set_ne false (Ne.symm hji)]; exact hj
          refine ⟨by simpa using hl, .inr ⟨by rw [getD_set_ne false hin]; exact hnf, fun k o' ho' hk' e he hx => ?_, upd vs i v, hput v, hflag _ (hR _ _ _ _ hw hbw), fun k hk' => ?_⟩⟩
          · by_cases hki : k = i
            · subst hki
              obtain rfl : o = o' := Option.some.inj (ho.symm.trans ho')
              exact hmono _ (hall e he hx)
            · rw [getD_set_ne false (Ne.symm hki)] at hk'
              exact hmono _ (hc k o' ho' hk' e he hx)
          · by_cases hki : k = i
            · subst hki
              have e : upd vs k v k = v := by simp [upd]
              rw [e]
              exact hv
            · have e : upd vs i v k = vs k := by unfold upd; rw [if_neg hki]
              rw [e]
              refine hst k i hki _ _ _ (hk k ?_) hbw
              rwa [getD_set_ne false (Ne.symm hki)] at hk')
      unfold wpOp
      simp only [ho]
      split
      · rename_i hw'
        rw [if_pos hw'] at hst1
        exact .inl hst1
      · rename_i hw'
        rw [if_neg hw'] at hst1
        exact hst1
  · rintro l a w ⟨hl, hI⟩ hr
    rcases hI with ⟨_, _, hq⟩ | ⟨hnf, _⟩
    · exact hq
    · rw [ready_all hb hl hr n (by omega)] at hnf
      cases hnf
  · simp
  · obtain ⟨vs, hvs⟩ := puts_self ops.toList 0 a0
    have hf : ∀ k, (Array.replicate ops.size false).getD k false = false := fun k => by
      by_cases h : k < ops.size
      · simp [h]
      · simp [h]
    refine ⟨by simp, .inr ⟨hf n, fun k _ _ hk => ?_, vs, by rw [← hA, hvs], by rw [hf m]; exact hdrew, fun k hk => ?_⟩⟩
    · rw [hf k] at hk; cases hk
    · rw [hf k] at hk; cases hk
end

end Go.Proofs.YtfjfpefpdlecbaaGreatDoor
