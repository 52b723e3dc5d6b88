/- Merged: KI15, KJ15, IR15. -/
import Derived.Test.YtfjfpefpdlecbaaGreatDoorQ33
import Derived.Test.YtfjfpefpdlecbaaGreatDoorQ28
import Derived.Test.YtfjfpefpdlecbaaGreatDoorShelf
import Derived.Sort.Grow
import Derived.Shelf.SlSortCmp.SmallK
import Derived.Test.YtfjfpefpdlecbaaGreatDoorQ22
import Derived.Test.YtfjfpefpdlecbaaGreatDoorQ30
namespace Go.Proofs.YtfjfpefpdlecbaaGreatDoor

section
open Go.RowKit Go.PlainAid
def cmpI (x y : Int) : Int := if x < y then -1 else if y < x then 1 else 0
theorem cmpI_neg (x y : Int) : cmpI x y < 0 ↔ x < y := by
  unfold cmpI
  by_cases h1 : x < y
  · rw [if_pos h1]
    exact ⟨fun _ => h1, fun _ => by decide⟩
  · rw [if_neg h1]
    by_cases h2 : y < x
    · rw [if_pos h2]
      exact ⟨fun h => by omega, fun h => absurd h h1⟩
    · rw [if_neg h2]
      exact ⟨fun h => by omega, fun h => absurd h h1⟩
theorem cmpI_zero (x y : Int) : cmpI x y = 0 ↔ x = y := by
  unfold cmpI
  by_cases h1 : x < y
  · rw [if_pos h1]
    exact ⟨fun h => by omega, fun h => by omega⟩
  · rw [if_neg h1]
    by_cases h2 : y < x
    · rw [if_pos h2]
      exact ⟨fun h => by omega, fun h => by omega⟩
    · rw [if_neg h2]
      exact ⟨fun _ => by omega, fun _ => rfl⟩
/-- The order of hits (a hit: its score, its number), as a number. -/
def cfH (p q : Int × Int) : Int := if cmpI q.1 p.1 ≠ 0 then cmpI q.1 p.1 else cmpI p.2 q.2
theorem cfH_lt (p q : Int × Int) : decide (cfH p q < 0) = ltF p q := by
  rw [Bool.eq_iff_iff, decide_eq_true_iff, ltF_iff]
  unfold cfH
  by_cases h : cmpI q.1 p.1 ≠ 0
  · rw [if_pos h, cmpI_neg]
    rw [ne_eq, cmpI_zero] at h
    omega
  · rw [if_neg h, cmpI_neg]
    rw [Decidable.not_not, cmpI_zero] at h
    omega

theorem isNaN15_any (x : Int) (w : World) : Calls Tryz.prog 75 #[.int .i64 x] w fun e w' => e = .returned (.bool false) ∧ w' = w := by
  have t : (x != x) = false := by simp
  go_enter Tryz.func75, Tryz.ntmps75
  go_wp2
  go_ret
  exact ⟨rfl, rfl⟩
set_option maxHeartbeats 2000000 in
theorem compare15_any (x y : Int) (w : World) : Calls Tryz.prog 51 #[.int .i64 x, .int .i64 y] w fun e w' => e = .returned (.int .i64 (cmpI x y)) ∧ w' = w := by
  have c := Lib.hid (fun x => isNaN15_any x w)
  unfold cmpI
  by_cases h1 : x < y
  · have t1 : decide (x < y) = true := decide_eq_true h1
    rw [if_pos h1]
    clear h1
    go_enter Tryz.func51, Tryz.ntmps51
    go_wp2_with fail
    refine (c.out x).mono ?_
    rintro e w1 ⟨rfl, hw1⟩
    rw [hw1]
    go_wp2_with fail
    refine (c.out y).mono ?_
    rintro e w2 ⟨rfl, hw2⟩
    rw [hw2]
    go_wp2
    first | exact ⟨rfl, rfl⟩ | (go_ret; exact ⟨rfl, rfl⟩)
  · have t1 : decide (x < y) = false := decide_eq_false h1
    rw [if_neg h1]
    by_cases h2 : y < x
    · have t2 : decide (y < x) = true := decide_eq_true h2
      rw [if_pos h2]
      clear h1 h2
      go_enter Tryz.func51, Tryz.ntmps51
      go_wp2_with fail
      refine (c.out x).mono ?_
      rintro e w1 ⟨rfl, hw1⟩
      rw [hw1]
      go_wp2_with fail
      refine (c.out y).mono ?_
      rintro e w2 ⟨rfl, hw2⟩
      rw [hw2]
      go_wp2
      first | exact ⟨rfl, rfl⟩ | (go_ret; exact ⟨rfl, rfl⟩)
    · have t2 : decide (y < x) = false := decide_eq_false h2
      rw [if_neg h2]
      clear h1 h2
      go_enter Tryz.func51, Tryz.ntmps51
      go_wp2_with fail
      refine (c.out x).mono ?_
      rintro e w1 ⟨rfl, hw1⟩
      rw [hw1]
      go_wp2_with fail
      refine (c.out y).mono ?_
      rintro e w2 ⟨rfl, hw2⟩
      rw [hw2]
      go_wp2
      first | exact ⟨rfl, rfl⟩ | (go_ret; exact ⟨rfl, rfl⟩)
set_option maxHeartbeats 4000000 in
theorem or15_any (c1 c2 : Int) (b : Nat) (w : World) (hb : w.heap[b]? = some (.cells #[.int .i64 c1, .int .i64 c2] 3 (0, 0))) :
    Calls Tryz.prog 73 #[.slice (some ⟨b, 0, none⟩) 2 2] w fun e w' => e = .returned (.int .i64 (if c1 ≠ 0 then c1 else c2)) ∧ w' = w := by
  obtain ⟨k0, k1⟩ := mcells2 hb
  clear hb
  by_cases h1 : c1 = 0
  · have t1 : (c1 != 0) = false := by simpa using h1
    rw [if_neg (fun h => h h1)]
    by_cases h2 : c2 = 0
    · have t2 : (c2 != 0) = false := by simpa using h2
      subst h2
      clear h1
      go_enter Tryz.func73, Tryz.ntmps73
      go_wp2
      refine wp_loop_rounds 3 ?_
      rw [rounds_succ]
      go_wp2
      rw [rounds_succ]
      go_wp2
      rw [rounds_succ]
      go_wp2
      first | exact ⟨rfl, rfl⟩ | (go_ret; exact ⟨rfl, rfl⟩)
    · have t2 : (c2 != 0) = true := by simpa using h2
      clear h1 h2
      go_enter Tryz.func73, Tryz.ntmps73
      go_wp2
      refine wp_loop_rounds 2 ?_
      rw [rounds_succ]
      go_wp2
      rw [rounds_succ]
      go_wp2
      first | exact ⟨rfl, rfl⟩ | (go_ret; exact ⟨rfl, rfl⟩)
  · have t1 : (c1 != 0) = true := by simpa using h1
    rw [if_pos h1]
    clear h1
    go_enter Tryz.func73, Tryz.ntmps73
    go_wp2
    refine wp_loop_rounds 1 ?_
    rw [rounds_succ]
    go_wp2
    first | exact ⟨rfl, rfl⟩ | (go_ret; exact ⟨rfl, rfl⟩)

/-- A world that has drawn and holds more blocks. -/
def GW (u v : World) : Prop := ∃ q os, v = Sort.grow (u.drewN q) os
theorem GW.refl (u : World) : GW u u := ⟨0, #[], by rw [Sort.grow_empty]; rfl⟩
theorem GW.drew (u : World) : GW u u.drew := ⟨1, #[], by rw [Sort.grow_empty]; rfl⟩
theorem GW.alloc (u : World) (o : Obj) : GW u (u.alloc o) := ⟨0, #[o], by rw [Sort.alloc_eq_grow]; rfl⟩
theorem GW.trans {u v w : World} (h : GW u v) (k : GW v w) : GW u w := by
  obtain ⟨q, os, rfl⟩ := h
  obtain ⟨q', os', rfl⟩ := k
  refine ⟨q + q', os ++ os', ?_⟩
  show Sort.grow (Sort.grow ((u.drewN q).drewN q') os) os' = _
  rw [Sort.grow_grow]
  congr 1
  simp [World.drewN, Nat.add_assoc]
theorem GW.block {u v : World} (h : GW u v) (b : Nat) (hb : b < u.heap.size) : v.heap[b]? = u.heap[b]? := by
  obtain ⟨q, os, rfl⟩ := h
  exact Sort.heap_grow_old (u.drewN q) os hb
theorem GW.size {u v : World} (h : GW u v) : u.heap.size ≤ v.heap.size := by
  obtain ⟨q, os, rfl⟩ := h
  simp [Sort.grow]
def SPR.two15 (c1 c2 : Int) : SPR GW := ⟨fun v w => ∃ b, v = .slice (some ⟨b, 0, none⟩) 2 2 ∧ w.heap[b]? = some (.cells #[.int .i64 c1, .int .i64 c2] 3 (0, 0)), fun _ _ _ h hg => by
  obtain ⟨b, h1, h2⟩ := h
  exact ⟨b, h1, (hg.block b (Array.getElem?_eq_some_iff.1 h2).1).trans h2⟩⟩
def encH (p : Int × Int) : List Value := [.int .i64 p.2, .int .i64 p.1]

set_option maxHeartbeats 16000000 in
set_option maxRecDepth 100000 in
theorem better_any (p q : Int × Int) (w : World) :
    Calls Tryz.prog 48 #[.agg (encH p).toArray, .agg (encH q).toArray] w fun e w' => e = .returned (.int .i64 (cfH p q)) ∧ ∃ n os', w' = Sort.grow (w.drewN n) os' := by
  obtain ⟨p1, p2⟩ := p
  obtain ⟨q1, q2⟩ := q
  obtain ⟨W0, hW0⟩ : ∃ W0, (w.alloc (.cells #[.int .i64 p2, .int .i64 p1] 82)).alloc (.cells #[.int .i64 q2, .int .i64 q1] 82) = W0 := ⟨_, rfl⟩
  have g0 : GW w W0 := by rw [← hW0]; exact (GW.alloc _ _).trans (GW.alloc _ _)
  have hA : W0.heap[w.heap.size]? = some (.cells #[.int .i64 p2, .int .i64 p1] 82 (0, 0)) := by
    rw [← hW0]
    exact (Below.heap_alloc _ _ _ (by simp)).trans (heap_alloc_new w _)
  have hB : W0.heap[w.heap.size + 1]? = some (.cells #[.int .i64 q2, .int .i64 q1] 82 (0, 0)) := by
    rw [← hW0]
    have := heap_alloc_new (w.alloc (.cells #[.int .i64 p2, .int .i64 p1] 82)) (.cells #[.int .i64 q2, .int .i64 q1] 82)
    simpa using this
  have HA := Lib.hid (fun (W : World) (h : GW W0 W) => (h.block _ (Array.getElem?_eq_some_iff.1 hA).1).trans hA)
  have HB := Lib.hid (fun (W : World) (h : GW W0 W) => (h.block _ (Array.getElem?_eq_some_iff.1 hB).1).trans hB)
  have HG := Lib.hid (fun (W : World) (h : GW W0 W) => g0.trans h)
  have cC1 := Lib.hid (fun W => compare15_any q1 p1 W)
  have cC2 := Lib.hid (fun W => compare15_any p2 q2 W)
  have cO := Lib.hid (fun b W hb => or15_any (cmpI q1 p1) (cmpI p2 q2) b W hb)
  change RowKit.Hid (∀ b W, W.heap[b]? = some (.cells #[.int .i64 (cmpI q1 p1), .int .i64 (cmpI p2 q2)] 3 (0, 0)) → Calls Tryz.prog 73 #[.slice (some ⟨b, 0, none⟩) 2 2] W fun e w' => e = .returned (.int .i64 (cfH (p1, p2) (q1, q2))) ∧ w' = W) at cO
  have HW0 := Lib.hid hW0
  obtain ⟨r, hr⟩ : ∃ r, cfH (p1, p2) (q1, q2) = r := ⟨_, rfl⟩
  rw [hr] at cO ⊢
  unfold encH
  clear hW0 hA hB g0 hr
  generalize cmpI q1 p1 = c1 at *
  generalize cmpI p2 q2 = c2 at *
  go_enter Tryz.func48, Tryz.ntmps48
  go_upto_region 1 with fail
  rw [HW0.out]
  clear HW0
  apply wp_region_rel (R := GW) (V := [SPR.eq _ (.pointer (some ⟨w.heap.size + 1, 1, none⟩)), SPR.eq _ (.int .i64 q1), SPR.eq _ (.pointer (some ⟨w.heap.size, 1, none⟩)), SPR.eq _ (.int .i64 p1), SPR.eq _ (.int .i64 c1), SPR.eq _ (.pointer (some ⟨w.heap.size, 0, none⟩)), SPR.eq _ (.int .i64 p2), SPR.eq _ (.pointer (some ⟨w.heap.size + 1, 0, none⟩)), SPR.eq _ (.int .i64 q2), SPR.eq _ (.int .i64 c2), SPR.two15 c1 c2, SPR.eq _ (.int .i64 r), SPR.eq _ (.int .i64 r)])
  case htrans => exact fun _ _ _ h k => GW.trans h k
  case hdrew => exact GW.drew _
  case hm => kernel_rfl
  case hd => kernel_rfl
  case hb => kernel_rfl
  case hA =>
    intro vs
    simp only [puts, Act.put, List.setIfInBounds_toArray, List.set_cons_zero, List.set_cons_succ]
    exact rfl
  case hob =>
    refine ObsR.cons _ _ _ _ _ _ _ ?o0 (ObsR.cons _ _ _ _ _ _ _ ?o1 (ObsR.cons _ _ _ _ _ _ _ ?o2 (ObsR.cons _ _ _ _ _ _ _ ?o3 (ObsR.cons _ _ _ _ _ _ _ ?o4 (ObsR.cons _ _ _ _ _ _ _ ?o5 (ObsR.cons _ _ _ _ _ _ _ ?o6 (ObsR.cons _ _ _ _ _ _ _ ?o7 (ObsR.cons _ _ _ _ _ _ _ ?o8 (ObsR.cons _ _ _ _ _ _ _ ?o9 (ObsR.cons _ _ _ _ _ _ _ ?o10 (ObsR.cons _ _ _ _ _ _ _ ?o11 (ObsR.cons _ _ _ _ _ _ _ ?o12 (ObsR.nil _ _ _ _ _ _ _)))))))))))))
    case o0 =>
      intro vs W hw hd K hK
      go_simp
      exact hK.out _ _ rfl (GW.refl _)
    case o1 =>
      intro vs W hw hd K hK
      have h0 : vs 0 = .pointer (some ⟨w.heap.size + 1, 1, none⟩) := hd 0 (by kernel_rfl)
      obtain ⟨b0, b1⟩ := mcells2 (HB.out W hw)
      simp only [Nat.reduceAdd, h0] at hK ⊢
      go_simp
      exact hK.out _ _ rfl (GW.refl _)
    case o2 =>
      intro vs W hw hd K hK
      go_simp
      exact hK.out _ _ rfl (GW.refl _)
    case o3 =>
      intro vs W hw hd K hK
      have h2 : vs 2 = .pointer (some ⟨w.heap.size, 1, none⟩) := hd 2 (by kernel_rfl)
      obtain ⟨a0, a1⟩ := mcells2 (HA.out W hw)
      simp only [Nat.reduceAdd, h2] at hK ⊢
      go_simp
      exact hK.out _ _ rfl (GW.refl _)
    case o4 =>
      intro vs W hw hd K hK
      have h1 : vs 1 = .int .i64 q1 := hd 1 (by kernel_rfl)
      have h3 : vs 3 = .int .i64 p1 := hd 3 (by kernel_rfl)
      simp only [Nat.reduceAdd, h1, h3] at hK ⊢
      go_simp
      refine (cC1.out W).mono ?_
      rintro e W' ⟨rfl, rfl⟩
      exact hK.out _ _ rfl (GW.refl _)
    case o5 =>
      intro vs W hw hd K hK
      go_simp
      exact hK.out _ _ rfl (GW.refl _)
    case o6 =>
      intro vs W hw hd K hK
      have h5 : vs 5 = .pointer (some ⟨w.heap.size, 0, none⟩) := hd 5 (by kernel_rfl)
      obtain ⟨a0, a1⟩ := mcells2 (HA.out W hw)
      simp only [Nat.reduceAdd, h5] at hK ⊢
      go_simp
      exact hK.out _ _ rfl (GW.refl _)
    case o7 =>
      intro vs W hw hd K hK
      go_simp
      exact hK.out _ _ rfl (GW.refl _)
    case o8 =>
      intro vs W hw hd K hK
      have h7 : vs 7 = .pointer (some ⟨w.heap.size + 1, 0, none⟩) := hd 7 (by kernel_rfl)
      obtain ⟨b0, b1⟩ := mcells2 (HB.out W hw)
      simp only [Nat.reduceAdd, h7] at hK ⊢
      go_simp
      exact hK.out _ _ rfl (GW.refl _)
    case o9 =>
      intro vs W hw hd K hK
      have h6 : vs 6 = .int .i64 p2 := hd 6 (by kernel_rfl)
      have h8 : vs 8 = .int .i64 q2 := hd 8 (by kernel_rfl)
      simp only [Nat.reduceAdd, h6, h8] at hK ⊢
      go_simp
      refine (cC2.out W).mono ?_
      rintro e W' ⟨rfl, rfl⟩
      exact hK.out _ _ rfl (GW.refl _)
    case o10 =>
      intro vs W hw hd K hK
      have h4 : vs 4 = .int .i64 c1 := hd 4 (by kernel_rfl)
      have h9 : vs 9 = .int .i64 c2 := hd 9 (by kernel_rfl)
      simp only [Nat.reduceAdd, h4, h9] at hK ⊢
      go_simp
      exact hK.out _ _ ⟨W.heap.size, rfl, heap_alloc_new W _⟩ (GW.alloc _ _)
    case o11 =>
      intro vs W hw hd K hK
      obtain ⟨b5, e10, hb5⟩ := hd 10 (by kernel_rfl)
      simp only [Nat.reduceAdd, e10] at hK ⊢
      go_simp
      refine (cO.out b5 W hb5).mono ?_
      rintro e W' ⟨rfl, rfl⟩
      exact hK.out _ _ rfl (GW.refl _)
    case o12 =>
      intro vs W hw hd K hK
      have h11 : vs 11 = .int .i64 r := hd 11 (by kernel_rfl)
      simp only [Nat.reduceAdd, h11] at hK ⊢
      go_simp
      exact hK.out _ _ rfl (GW.refl _)
  case hfin =>
    intro vs W hw hd
    have h12 : vs 12 = .int .i64 r := hd 12 (by decide)
    simp only [Nat.reduceAdd, h12]
    have HF := Lib.hid (HG.out W hw)
    clear hd h12 hw
    go_wp2
    first | exact ⟨rfl, HF.out⟩ | (go_ret; exact ⟨rfl, HF.out⟩)
theorem bits0_any (w : World) : Calls Tryz.prog 72 #[.int .u64 0] w fun e w' => e = .returned (.int .i64 0) ∧ w' = w := Tryz.bits_Len 0 w (by decide) (by decide)

set_option maxHeartbeats 2000000 in
theorem hitIns_none (f : Value) (w : World) : Calls Tryz.prog 102 #[.slice none 0 0, .int .i64 0, .int .i64 0, f] w fun e w' => e = .returned (.tuple #[]) ∧ w' = w := by
  go_enter Tryz.func102, Tryz.ntmps102
  go_wp2
  refine wp_loop_rounds 1 ?_
  rw [rounds_succ]
  go_wp2
  go_end0
  exact ⟨rfl, rfl⟩
set_option maxHeartbeats 4000000 in
set_option maxRecDepth 100000 in
theorem hitPdq_none (f : Value) (w : World) : Calls Tryz.prog 71 #[.slice none 0 0, .int .i64 0, .int .i64 0, .int .i64 0, f] w fun e w' => e = .returned (.tuple #[]) ∧ w' = w := by
  have c := Lib.hid (hitIns_none f w)
  go_enter Tryz.func71, Tryz.ntmps71
  go_wp2
  refine wp_loop_rounds 1 ?_
  rw [rounds_succ]
  go_wp2_with fail
  refine c.out.mono ?_
  rintro e w1 ⟨rfl, hw1⟩
  rw [hw1]
  go_wp2
  (try simp only [Exit.inBlock, Exit.then]); refine bodyPost_ret (results_none rfl _ _ _) rfl ?_
  exact ⟨rfl, rfl⟩
set_option maxHeartbeats 2000000 in
theorem hitSort_none (f : Value) (w : World) : Calls Tryz.prog 47 #[.slice none 0 0, f] w fun e w' => e = .returned (.tuple #[]) ∧ w' = w := by
  have c := Lib.hid (hitPdq_none f w)
  have cl := Lib.hid (bits0_any w)
  go_enter Tryz.func47, Tryz.ntmps47
  go_wp2_with fail
  refine cl.out.mono ?_
  rintro e w1 ⟨rfl, hw1⟩
  rw [hw1]
  go_wp2_with fail
  refine c.out.mono ?_
  rintro e w2 ⟨rfl, hw2⟩
  rw [hw2]
  go_wp2
  go_end0
  exact ⟨rfl, rfl⟩

set_option maxHeartbeats 2000000 in
theorem prfIns_none (f : Value) (w : World) : Calls Tryz.prog 112 #[.slice none 0 0, .int .i64 0, .int .i64 0, f] w fun e w' => e = .returned (.tuple #[]) ∧ w' = w := by
  go_enter Tryz.func112, Tryz.ntmps112
  go_wp2
  refine wp_loop_rounds 1 ?_
  rw [rounds_succ]
  go_wp2
  go_end0
  exact ⟨rfl, rfl⟩
set_option maxHeartbeats 4000000 in
set_option maxRecDepth 100000 in
theorem prfPdq_none (f : Value) (w : World) : Calls Tryz.prog 74 #[.slice none 0 0, .int .i64 0, .int .i64 0, .int .i64 0, f] w fun e w' => e = .returned (.tuple #[]) ∧ w' = w := by
  have c := Lib.hid (prfIns_none f w)
  go_enter Tryz.func74, Tryz.ntmps74
  go_wp2
  refine wp_loop_rounds 1 ?_
  rw [rounds_succ]
  go_wp2_with fail
  refine c.out.mono ?_
  rintro e w1 ⟨rfl, hw1⟩
  rw [hw1]
  go_wp2
  (try simp only [Exit.inBlock, Exit.then]); refine bodyPost_ret (results_none rfl _ _ _) rfl ?_
  exact ⟨rfl, rfl⟩
set_option maxHeartbeats 2000000 in
theorem prfSort_none (f : Value) (w : World) : Calls Tryz.prog 49 #[.slice none 0 0, f] w fun e w' => e = .returned (.tuple #[]) ∧ w' = w := by
  have c := Lib.hid (prfPdq_none f w)
  have cl := Lib.hid (bits0_any w)
  go_enter Tryz.func49, Tryz.ntmps49
  go_wp2_with fail
  refine cl.out.mono ?_
  rintro e w1 ⟨rfl, hw1⟩
  rw [hw1]
  go_wp2_with fail
  refine c.out.mono ?_
  rintro e w2 ⟨rfl, hw2⟩
  rw [hw2]
  go_wp2
  go_end0
  exact ⟨rfl, rfl⟩
end

section
open Go.RowKit Go.PlainAid
open Go.Sort (putRow mapBlock HoldsK putRowK size_flatK get_flatK)

/-! Hits. -/
def cellsH15 (L : List (Int × Int)) : List Value := L.flatMap encH
theorem cellsH15_len (L : List (Int × Int)) : (cellsH15 L).length = L.length * 2 := by
  induction L with
  | nil => rfl
  | cons x t ih => simp [cellsH15, List.flatMap_cons, encH] at ih ⊢; omega
theorem cellsH15_snoc (L : List (Int × Int)) (x : (Int × Int)) : cellsH15 (L ++ [x]) = cellsH15 L ++ [.int .i64 x.2, .int .i64 x.1] := by simp [cellsH15, encH]
theorem cellsH15_at : ∀ (L : List (Int × Int)) (i : Nat) (x : (Int × Int)), L[i]? = some x → (cellsH15 L)[i * 2]? = some (.int .i64 x.2) ∧ (cellsH15 L)[i * 2 + 1]? = some (.int .i64 x.1)
  | [], i, x, h => by simp at h
  | x' :: t, 0, x, h => by
    simp at h
    subst h
    simp [cellsH15, encH]
  | y :: t, i + 1, x, h => by
    have ih := cellsH15_at t i x (by simpa using h)
    have e : cellsH15 (y :: t) = Value.int .i64 y.2 :: Value.int .i64 y.1 :: cellsH15 t := by simp [cellsH15, encH]
    rw [e, show (i + 1) * 2 = i * 2 + 1 + 1 by omega, show i * 2 + 1 + 1 + 1 = (i * 2 + 1) + 1 + 1 by omega]
    simpa using ih
theorem holdsH15 {w : World} {B blk n cap : Nat} {L : List (Int × Int)} (h : w.ownsRow B 82 2 (.slice (some ⟨blk, 0, none⟩) n cap) n (cellsH15 L)) : HoldsK encH 2 w blk 0 L.toArray := by
  intro j hj
  rw [size_flatK] at hj
  have hj' : j < L.length * 2 := by simpa using hj
  have hl : L.length * 2 = n * 2 := by rw [← cellsH15_len]; exact h.1
  have hc := h.cellAt j (by omega)
  have hf := h.frozenAt j
  rw [get_flatK _ _ _ _ hj, Nat.zero_add]
  refine ⟨?_, hf⟩
  rw [hc]
  have hi : j / 2 < L.length := by omega
  have hx : L[j / 2]? = some L[j / 2] := List.getElem?_eq_getElem hi
  obtain ⟨c0, c1⟩ := cellsH15_at L (j / 2) _ hx
  have hd : L.toArray[j / 2]! = L[j / 2] := by
    rw [getElem!_pos L.toArray (j / 2) (by simpa using hi)]
    simp
  rw [hd]
  have hm : j % 2 = 0 ∨ j % 2 = 1 := by omega
  rcases hm with hm | hm
  · have e : j = j / 2 * 2 := by omega
    rw [hm]
    have e2 : (cellsH15 L)[j]? = (cellsH15 L)[j / 2 * 2]? := by rw [← e]
    rw [e2, c0]
    rfl
  · have e : j = j / 2 * 2 + 1 := by omega
    rw [hm]
    have e2 : (cellsH15 L)[j]? = (cellsH15 L)[j / 2 * 2 + 1]? := by rw [← e]
    rw [e2, c1]
    rfl
theorem grownBy_sortH15 {w : World} {g n : Nat} {os : Array Obj} (d : Array (Int × Int)) : w.grownBy (sortWorldK encH 2 w g 0 n d os) (some g) := by
  unfold sortWorldK putRowK
  refine ⟨rfl, rfl, rfl, by simp, fun k hk hne => ?_⟩
  rw [Sort.heap_grow_old _ _ (by simpa using hk)]
  have : g ≠ k := fun e => hne (by rw [e])
  simp [putRow, mapBlock, Sort.ahead, Array.getElem?_modify, this]
theorem swoH15 : Sort.SWO (ltOf cfH) where
  irrefl x := by
    have : ¬ (ltOf cfH x x = true) := by unfold ltOf; rw [decide_eq_true_iff]; intro h; have h2 := cfH_lt x x; rw [decide_eq_true h] at h2; have := (ltF_iff x x).1 h2.symm; omega
    simpa using this
  trans x y z h1 h2 := by unfold ltOf at *; rw [decide_eq_true_iff] at *; have e1 := cfH_lt x y; have e2 := cfH_lt y z; rw [decide_eq_true h1] at e1; rw [decide_eq_true h2] at e2; have k1 := (ltF_iff _ _).1 e1.symm; have k2 := (ltF_iff _ _).1 e2.symm; have k3 : ltF x z = true := (ltF_iff _ _).2 (by omega); rw [← cfH_lt, decide_eq_true_iff] at k3; exact k3
  ntrans x y z h1 h2 := by unfold ltOf at *; rw [decide_eq_false_iff_not] at *; intro h3; have e1 := cfH_lt x y; have e2 := cfH_lt y z; have e3 := cfH_lt x z; rw [decide_eq_false h1] at e1; rw [decide_eq_false h2] at e2; rw [decide_eq_true h3] at e3; have k3 := (ltF_iff _ _).1 e3.symm; have n1 : ¬ (ltF x y = true) := (by rw [← e1]; decide); have n2 : ¬ (ltF y z = true) := (by rw [← e2]; decide); rw [ltF_iff] at n1 n2; omega
/-- slices.SortFunc of a row of the call's own, of at most 12 elements. -/
theorem sortH15_any (B : Nat) (v : Value) (L : List (Int × Int)) (w : World) (h : w.ownsRow B 82 2 v L.length (cellsH15 L)) (h12 : L.length ≤ 12) :
    Calls Tryz.prog 47 #[v, .func (.func 48) #[] #[]] w fun e w' => e = .returned (.tuple #[]) ∧ ∃ L' : List (Int × Int), L'.Perm L ∧ L'.Pairwise (fun a b => decide (cfH b a < 0) = false) ∧
      (∃ a cap b, v = .slice a L'.length cap ∧ L'.length ≤ cap ∧ cap ≤ maxLen ∧ (0 < L'.length → a = some ⟨b, 0, none⟩ ∧ b < w'.heap.size) ∧ ∀ i x, L'[i]? = some x → w'.cell? ⟨b, i * 2, none⟩ = some (.int .i64 x.2) ∧ w'.cell? ⟨b, i * 2 + 1, none⟩ = some (.int .i64 x.1)) ∧ w.grownBy w' v.ownBlock := by
  rcases h.2 with ⟨rfl, h0⟩ | ⟨blk, cap, cur, rfl, hb, hg, hc, hm, hs, ht⟩
  · have h00 : L = [] := List.eq_nil_of_length_eq_zero h0
    subst h00
    refine (hitSort_none _ w).mono ?_
    rintro e w' ⟨rfl, hw⟩
    rw [hw]
    exact ⟨rfl, [], List.Perm.refl _, List.Pairwise.nil, ⟨none, 0, 0, rfl, Nat.le_refl _, Nat.zero_le _, (fun h => by cases h), fun i x hi => by simp at hi⟩, ⟨rfl, rfl, rfl, Nat.le_refl _, fun _ _ _ => rfl⟩⟩
  · have hblk : blk < w.heap.size := (Array.getElem?_eq_some_iff.1 hg).1
    have hH := holdsH15 h
    have hsz : L.toArray.size = L.length := by simp
    have hcon := AnyQ.slices_SortFunc_small_sorted Tryz.sortH 2 Tryz.isAgg82 Tryz.sizeOf82 encH (fun _ => rfl)
      (fun x v hv => by simp [encH] at hv; rcases hv with rfl | rfl <;> rfl) cfH 48 #[] swoH15 blk 0 cap L.toArray w
      (enters_of Tryz.func48 (by kernel_rfl) rfl) (fun _ _ _ _ x y => better_any x y _) hH hblk (by omega)
      (fun n W hn => (Tryz.bits_Len (n : Int) W (by omega) (by omega)).mono fun e w' hh => ⟨⟨_, hh.1⟩, hh.2⟩)
    rw [hsz] at hcon
    refine (show Calls Tryz.prog 47 _ _ _ from hcon).mono ?_
    rintro e w' ⟨rfl, d', m, os, hp, hso, rfl⟩
    have hsz' : d'.size = L.toArray.size := hp.1
    have hlen : d'.toList.length = L.length := by rw [← hsz, ← hsz']; simp
    have hperm : d'.toList.Perm L := by
      have := hp.2.2
      have e1 : (d'.extract 0 L.length).toList = d'.toList := by
        rw [Array.toList_extract, List.extract_eq_take_drop, List.drop_zero, Nat.sub_zero, List.take_of_length_le (by omega)]
      have e2 : (L.toArray.extract 0 L.length).toList = L := by
        rw [Array.toList_extract, List.extract_eq_take_drop, List.drop_zero, Nat.sub_zero, List.take_of_length_le (by simp)]
      rwa [e1, e2] at this
    have hH2 := holdsK_sortWorldK_c encH 2 w blk 0 L.toArray d' m os hH hblk hsz'
    have hget : ∀ i, (hi : i < d'.toList.length) → d'[i]! = d'.toList[i] := fun i hi => by
      rw [getElem!_pos d' i (by simpa using hi)]
      simp
    refine ⟨rfl, d'.toList, hperm, ?_, ⟨_, cap, blk, by rw [hlen], by omega, hm, fun _ => ⟨rfl, ?_⟩, fun i x hx => ?_⟩, grownBy_sortH15 d'⟩
    · rw [List.pairwise_iff_getElem]
      intro i j hi hj hij
      have := hso i j (Nat.zero_le _) hij (by omega)
      rw [hget i hi, hget j hj] at this
      exact this
    · exact Nat.lt_of_lt_of_le hblk (grownBy_sortH15 (w := w) (n := m) (os := os) d').size
    · have hi : i < d'.toList.length := (List.getElem?_eq_some_iff.1 hx).1
      have hd : d'[i]! = x := by rw [hget i hi]; exact (List.getElem?_eq_some_iff.1 hx).2
      have hi' : i < d'.size := by simpa using hi
      have k0 := (hH2.cell (i := i) (c := 0) hi' (by decide)).1
      have k1 := (hH2.cell (i := i) (c := 1) hi' (by decide)).1
      rw [hd] at k0 k1
      refine ⟨?_, ?_⟩
      · have e : 0 + i * 2 + 0 = i * 2 := by omega
        rw [e] at k0
        exact k0
      · have e : 0 + i * 2 + 1 = i * 2 + 1 := by omega
        rw [e] at k1
        exact k1

/-- A profile in a row, its keys' value written out, and the record that it stands for. -/
abbrev SE := (Option Addr × Nat × Nat) × Rec
instance instSE15 : Inhabited SE := ⟨((none, 0, 0), rec0)⟩
def encE15 (e : SE) : List Value := [.int .i64 e.2.id, .slice e.1.1 e.1.2.1 e.1.2.2]
def cfS (x y : SE) : Int := cmpI x.2.id y.2.id
set_option maxHeartbeats 4000000 in
theorem pairsF_any (x y : SE) (w : World) :
    Calls Tryz.prog 50 #[.agg (encE15 x).toArray, .agg (encE15 y).toArray] w fun e w' => e = .returned (.int .i64 (cfS x y)) ∧ ∃ n os', w' = Sort.grow (w.drewN n) os' := by
  obtain ⟨⟨xa, xn, xc⟩, xr⟩ := x
  obtain ⟨⟨ya, yn, yc⟩, yr⟩ := y
  have c := Lib.hid (fun W => compare15_any xr.id yr.id W)
  unfold encE15 cfS
  dsimp only
  generalize xr.id = xi at *
  generalize yr.id = yi at *
  generalize cmpI xi yi = r at *
  go_enter Tryz.func50, Tryz.ntmps50
  go_wp2_with fail
  refine (c.out _).mono ?_
  rintro e w1 ⟨rfl, rfl⟩
  go_wp2
  first
    | exact ⟨rfl, 0, _, by rw [Sort.alloc_eq_grow, Sort.alloc_eq_grow, Sort.grow_grow]; rfl⟩
    | (go_ret; exact ⟨rfl, 0, _, by rw [Sort.alloc_eq_grow, Sort.alloc_eq_grow, Sort.grow_grow]; rfl⟩)

/-! Profiles. -/
def cellsF15 (L : List SE) : List Value := L.flatMap encE15
theorem cellsF15_len (L : List SE) : (cellsF15 L).length = L.length * 2 := by
  induction L with
  | nil => rfl
  | cons x t ih => simp [cellsF15, List.flatMap_cons, encE15] at ih ⊢; omega
theorem cellsF15_snoc (L : List SE) (x : SE) : cellsF15 (L ++ [x]) = cellsF15 L ++ [.int .i64 x.2.id, .slice x.1.1 x.1.2.1 x.1.2.2] := by simp [cellsF15, encE15]
theorem cellsF15_at : ∀ (L : List SE) (i : Nat) (x : SE), L[i]? = some x → (cellsF15 L)[i * 2]? = some (.int .i64 x.2.id) ∧ (cellsF15 L)[i * 2 + 1]? = some (.slice x.1.1 x.1.2.1 x.1.2.2)
  | [], i, x, h => by simp at h
  | x' :: t, 0, x, h => by
    simp at h
    subst h
    simp [cellsF15, encE15]
  | y :: t, i + 1, x, h => by
    have ih := cellsF15_at t i x (by simpa using h)
    have e : cellsF15 (y :: t) = Value.int .i64 y.2.id :: Value.slice y.1.1 y.1.2.1 y.1.2.2 :: cellsF15 t := by simp [cellsF15, encE15]
    rw [e, show (i + 1) * 2 = i * 2 + 1 + 1 by omega, show i * 2 + 1 + 1 + 1 = (i * 2 + 1) + 1 + 1 by omega]
    simpa using ih
theorem holdsF15 {w : World} {B blk n cap : Nat} {L : List SE} (h : w.ownsRow B 76 2 (.slice (some ⟨blk, 0, none⟩) n cap) n (cellsF15 L)) : HoldsK encE15 2 w blk 0 L.toArray := by
  intro j hj
  rw [size_flatK] at hj
  have hj' : j < L.length * 2 := by simpa using hj
  have hl : L.length * 2 = n * 2 := by rw [← cellsF15_len]; exact h.1
  have hc := h.cellAt j (by omega)
  have hf := h.frozenAt j
  rw [get_flatK _ _ _ _ hj, Nat.zero_add]
  refine ⟨?_, hf⟩
  rw [hc]
  have hi : j / 2 < L.length := by omega
  have hx : L[j / 2]? = some L[j / 2] := List.getElem?_eq_getElem hi
  obtain ⟨c0, c1⟩ := cellsF15_at L (j / 2) _ hx
  have hd : L.toArray[j / 2]! = L[j / 2] := by
    rw [getElem!_pos L.toArray (j / 2) (by simpa using hi)]
    simp
  rw [hd]
  have hm : j % 2 = 0 ∨ j % 2 = 1 := by omega
  rcases hm with hm | hm
  · have e : j = j / 2 * 2 := by omega
    rw [hm]
    have e2 : (cellsF15 L)[j]? = (cellsF15 L)[j / 2 * 2]? := by rw [← e]
    rw [e2, c0]
    rfl
  · have e : j = j / 2 * 2 + 1 := by omega
    rw [hm]
    have e2 : (cellsF15 L)[j]? = (cellsF15 L)[j / 2 * 2 + 1]? := by rw [← e]
    rw [e2, c1]
    rfl
theorem grownBy_sortF15 {w : World} {g n : Nat} {os : Array Obj} (d : Array SE) : w.grownBy (sortWorldK encE15 2 w g 0 n d os) (some g) := by
  unfold sortWorldK putRowK
  refine ⟨rfl, rfl, rfl, by simp, fun k hk hne => ?_⟩
  rw [Sort.heap_grow_old _ _ (by simpa using hk)]
  have : g ≠ k := fun e => hne (by rw [e])
  simp [putRow, mapBlock, Sort.ahead, Array.getElem?_modify, this]
theorem swoF15 : Sort.SWO (ltOf cfS) where
  irrefl x := by
    have : ¬ (ltOf cfS x x = true) := by unfold ltOf; rw [decide_eq_true_iff]; unfold cfS; rw [cmpI_neg]; omega
    simpa using this
  trans x y z h1 h2 := by unfold ltOf at *; rw [decide_eq_true_iff] at *; unfold cfS at *; rw [cmpI_neg] at *; omega
  ntrans x y z h1 h2 := by unfold ltOf at *; rw [decide_eq_false_iff_not] at *; unfold cfS at *; rw [cmpI_neg] at *; omega
/-- slices.SortFunc of a row of the call's own, of at most 12 elements. -/
theorem sortF15_any (B : Nat) (v : Value) (L : List SE) (w : World) (h : w.ownsRow B 76 2 v L.length (cellsF15 L)) (h12 : L.length ≤ 12) :
    Calls Tryz.prog 49 #[v, .func (.func 50) #[] #[]] w fun e w' => e = .returned (.tuple #[]) ∧ ∃ L' : List SE, L'.Perm L ∧ L'.Pairwise (fun a b => decide (cfS b a < 0) = false) ∧
      (∃ a cap b, v = .slice a L'.length cap ∧ L'.length ≤ cap ∧ cap ≤ maxLen ∧ (0 < L'.length → a = some ⟨b, 0, none⟩ ∧ b < w'.heap.size) ∧ ∀ i x, L'[i]? = some x → w'.cell? ⟨b, i * 2, none⟩ = some (.int .i64 x.2.id) ∧ w'.cell? ⟨b, i * 2 + 1, none⟩ = some (.slice x.1.1 x.1.2.1 x.1.2.2)) ∧ w.grownBy w' v.ownBlock := by
  rcases h.2 with ⟨rfl, h0⟩ | ⟨blk, cap, cur, rfl, hb, hg, hc, hm, hs, ht⟩
  · have h00 : L = [] := List.eq_nil_of_length_eq_zero h0
    subst h00
    refine (prfSort_none _ w).mono ?_
    rintro e w' ⟨rfl, hw⟩
    rw [hw]
    exact ⟨rfl, [], List.Perm.refl _, List.Pairwise.nil, ⟨none, 0, 0, rfl, Nat.le_refl _, Nat.zero_le _, (fun h => by cases h), fun i x hi => by simp at hi⟩, ⟨rfl, rfl, rfl, Nat.le_refl _, fun _ _ _ => rfl⟩⟩
  · have hblk : blk < w.heap.size := (Array.getElem?_eq_some_iff.1 hg).1
    have hH := holdsF15 h
    have hsz : L.toArray.size = L.length := by simp
    have hcon := AnyQ.slices_SortFunc_small_sorted Tryz.sortP 2 Tryz.isAgg76 Tryz.sizeOf76 encE15 (fun _ => rfl)
      (fun x v hv => by simp [encE15] at hv; rcases hv with rfl | rfl <;> rfl) cfS 50 #[] swoF15 blk 0 cap L.toArray w
      (enters_of Tryz.func50 (by kernel_rfl) rfl) (fun _ _ _ _ x y => pairsF_any x y _) hH hblk (by omega)
      (fun n W hn => (Tryz.bits_Len (n : Int) W (by omega) (by omega)).mono fun e w' hh => ⟨⟨_, hh.1⟩, hh.2⟩)
    rw [hsz] at hcon
    refine (show Calls Tryz.prog 49 _ _ _ from hcon).mono ?_
    rintro e w' ⟨rfl, d', m, os, hp, hso, rfl⟩
    have hsz' : d'.size = L.toArray.size := hp.1
    have hlen : d'.toList.length = L.length := by rw [← hsz, ← hsz']; simp
    have hperm : d'.toList.Perm L := by
      have := hp.2.2
      have e1 : (d'.extract 0 L.length).toList = d'.toList := by
        rw [Array.toList_extract, List.extract_eq_take_drop, List.drop_zero, Nat.sub_zero, List.take_of_length_le (by omega)]
      have e2 : (L.toArray.extract 0 L.length).toList = L := by
        rw [Array.toList_extract, List.extract_eq_take_drop, List.drop_zero, Nat.sub_zero, List.take_of_length_le (by simp)]
      rwa [e1, e2] at this
    have hH2 := holdsK_sortWorldK_c encE15 2 w blk 0 L.toArray d' m os hH hblk hsz'
    have hget : ∀ i, (hi : i < d'.toList.length) → d'[i]! = d'.toList[i] := fun i hi => by
      rw [getElem!_pos d' i (by simpa using hi)]
      simp
    refine ⟨rfl, d'.toList, hperm, ?_, ⟨_, cap, blk, by rw [hlen], by omega, hm, fun _ => ⟨rfl, ?_⟩, fun i x hx => ?_⟩, grownBy_sortF15 d'⟩
    · rw [List.pairwise_iff_getElem]
      intro i j hi hj hij
      have := hso i j (Nat.zero_le _) hij (by omega)
      rw [hget i hi, hget j hj] at this
      exact this
    · exact Nat.lt_of_lt_of_le hblk (grownBy_sortF15 (w := w) (n := m) (os := os) d').size
    · have hi : i < d'.toList.length := (List.getElem?_eq_some_iff.1 hx).1
      have hd : d'[i]! = x := by rw [hget i hi]; exact (List.getElem?_eq_some_iff.1 hx).2
      have hi' : i < d'.size := by simpa using hi
      have k0 := (hH2.cell (i := i) (c := 0) hi' (by decide)).1
      have k1 := (hH2.cell (i := i) (c := 1) hi' (by decide)).1
      rw [hd] at k0 k1
      refine ⟨?_, ?_⟩
      · have e : 0 + i * 2 + 0 = i * 2 := by omega
        rw [e] at k0
        exact k0
      · have e : 0 + i * 2 + 1 = i * 2 + 1 := by omega
        rw [e] at k1
        exact k1
end

section
open Go.RowKit Go.PlainAid
def intV (x : Int) : Value := .int .i64 x
theorem infoInt13 : (Tryz.prog.info? 3).map (fun i => (i.zero, i.size, i.bytes)) = some (some (.int .i64 0), 1, 8) := by kernel_rfl
theorem info_int13 : ∃ i0, Tryz.prog.info? 3 = some i0 ∧ i0.zero = some (.int .i64 0) ∧ i0.size = 1 ∧ i0.bytes = 8 := by
  obtain ⟨i0, h0, h2⟩ := Option.map_eq_some_iff.1 infoInt13
  simp only [Prod.mk.injEq] at h2
  exact ⟨i0, h0, h2.1, h2.2.1, h2.2.2⟩
/-- A slice of integers of the call's own, nil at first. -/
def IR (B : Nat) (v : Value) (l : List Int) (w : World) : Prop := w.ownsRow B 3 1 v l.length (l.map intV)
theorem IR.after {B : Nat} {v : Value} {l : List Int} {w w' : World} (h : IR B v l w) (hb : Below w.heap.size w w') : IR B v l w' := own_after h hb
theorem IR.zero (B : Nat) (w : World) : IR B (.slice none 0 0) [] w := ⟨rfl, .inl ⟨rfl, rfl⟩⟩
theorem IR.il {B : Nat} {v : Value} {l : List Int} {w : World} (h : IR B v l w) : IL v l w := by
  rcases h.2 with ⟨rfl, h0⟩ | ⟨g, cap, cur, rfl, hg0, hg, hc, hm, hsz, ht⟩
  · have : l = [] := List.eq_nil_of_length_eq_zero h0
    subst this
    exact IL.nil w
  · refine ⟨_, cap, rfl, hc, fun i x hx => ⟨g, 0, rfl, (Array.getElem?_eq_some_iff.1 hg).1, ?_⟩⟩
    have := World.ownsRow.cells h (g := g) rfl i (intV x) (by rw [List.getElem?_map, hx]; rfl)
    have hadd : (⟨g, 0, none⟩ : Addr).add i = ⟨g, i, none⟩ := by unfold Addr.add; split <;> simp_all
    rw [hadd] at this
    rw [Nat.zero_add]
    exact this
theorem cells_int13 (w : World) (x : Value) (t : TypeId) : ∀ j u, [x][j]? = some u → (w.alloc (.cells #[x] t)).cell? ((⟨w.heap.size, 0, none⟩ : Addr).add j) = some u := cells_one12 w x t
/-- append of one integer that has just been laid to such a row. -/
theorem append_ir {ops : Array Oper} {rest : List Oper} {o : Oper} {a : Act} {Q : Exit → Act → World → Prop} (w : World) (hgd : o.guard = none) (s x : Operand)
    (ho : o.op = .call { callee := .builtin .append, args := #[s, x], argTypes := #[46, 46] })
    (B : Nat) (v : Value) (L : List Int) (y : Int) (hs : a.eval s = v) (h : IR B v L w) (hx : a.eval x = .slice (some ⟨w.heap.size, 0, none⟩) 1 1) (hz : L.length ≤ 10000000) (hB : B ≤ w.heap.size)
    (N : Nat) (W1 : World) (hNB : N ≤ B) (hb : Below N W1 w)
    (hk : ∀ v' w', IR B v' (L ++ [y]) w' → Below N W1 w' → B ≤ w'.heap.size → wpList Tryz.prog ops Q rest (a.put o.dst v') w') : wpList Tryz.prog ops Q (o :: rest) a (w.alloc (.cells #[intV y] 3)) := by
  obtain ⟨i0, hi, hz0, hz1, hz2⟩ := info_int13
  have hrow := World.ownsRow.alloc h (.cells #[intV y] 3)
  refine wpList_append_own _ hgd s x 46 ho B 3 i0 (.int .i64 0) 1 8 Tryz.underlying46 hi hz0 hz1 hz2 rfl (by decide) v L.length _ hs hrow ⟨w.heap.size, 0, none⟩ 1 1 [intV y] hx rfl (cells_one12 _ _ _) (by intro u hu; simp at hu; subst hu; rfl) (by unfold maxLen; omega) (by omega) (by simp; omega) ?_
  intro v2 w2 hown2 hg2 hn2
  refine hk v2 w2 (by unfold IR; rw [List.length_append, List.map_append]; exact hown2) ?_ (Nat.le_trans (by simp; omega) hg2.size)
  exact (hb.alloc (by omega) _).grown hg2 (by simp; omega) (fun j hj => Nat.le_trans hNB (hrow.lt j hj).1)
end

end Go.Proofs.YtfjfpefpdlecbaaGreatDoor
