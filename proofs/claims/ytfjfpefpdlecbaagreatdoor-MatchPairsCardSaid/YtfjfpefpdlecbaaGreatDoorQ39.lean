/- Merged: Am15. -/
import Derived.Test.YtfjfpefpdlecbaaGreatDoorQ29
import Derived.Test.YtfjfpefpdlecbaaGreatDoorQ30
import Derived.Test.YtfjfpefpdlecbaaGreatDoorQ32
import Derived.Test.YtfjfpefpdlecbaaGreatDoorQ28
import Derived.Test.YtfjfpefpdlecbaaGreatDoorQ33
import Derived.Test.YtfjfpefpdlecbaaGreatDoorQ35
import Derived.Test.YtfjfpefpdlecbaaGreatDoorQ37
import Derived.Test.YtfjfpefpdlecbaaGreatDoorQ38
import Derived.Test.YtfjfpefpdlecbaaGreatDoorQ36
namespace Go.Proofs.YtfjfpefpdlecbaaGreatDoor

section
open Go.RowKit Go.PlainAid
theorem BL.of15 (w : World) (b : Nat) (x : List UInt8) (h : w.heap[b]? = some (.cells #[.string (S x)] 9 (0, 0))) : BL (.slice (some ⟨b, 0, none⟩) 1 1) [x] w := by
  refine ⟨_, 1, rfl, Nat.le_refl _, by decide, (fun g => by cases g), fun i hi => ⟨b, 0, rfl, (Array.getElem?_eq_some_iff.1 h).1, ?_⟩⟩
  have hi1 : i < 1 := hi
  match i, hi1 with
  | 0, _ => exact cells_at h _ _ rfl
theorem IL.of15 (w : World) (b : Nat) (x : Int) (h : w.heap[b]? = some (.cells #[.int .i64 x] 3 (0, 0))) : IL (.slice (some ⟨b, 0, none⟩) 1 1) [x] w := by
  refine ⟨_, 1, rfl, Nat.le_refl _, fun i y hy => ⟨b, 0, rfl, (Array.getElem?_eq_some_iff.1 h).1, ?_⟩⟩
  match i, hy with
  | 0, hy =>
    obtain rfl : x = y := by simpa using hy
    exact cells_at h _ _ rfl
theorem PL.of15 (w : World) (b : Nat) (x y : Int) (h : w.heap[b]? = some (.cells #[.int .i64 x, .int .i64 y] 59 (0, 0))) : PL (.slice (some ⟨b, 0, none⟩) 1 1) [(x, y)] w := by
  refine ⟨_, 1, rfl, Nat.le_refl _, by decide, (fun g => by cases g), fun i hi => ⟨b, 0, rfl, (Array.getElem?_eq_some_iff.1 h).1, ?_⟩⟩
  have hi1 : i < 1 := hi
  match i, hi1 with
  | 0, _ => exact ⟨cells_at h _ _ rfl, cells_at h _ _ rfl⟩
theorem FL.of15A (w : World) (b : Nat) (u1 u2 u3 u4 : Value) (h : w.heap[b]? = some (.cells #[.string ⟨#[50, 52, 53]⟩, .string ⟨#[32, 32]⟩, u1, .int .i64 0, .string ⟨#[49, 48, 48]⟩, .string ⟨#[32, 32]⟩, u2, .int .i64 0, .string ⟨#[50, 54, 52]⟩, .string ⟨#[32, 32]⟩, u3, .int .i64 0, .string ⟨#[50, 54, 52]⟩, .string ⟨#[32, 32]⟩, u4, .int .i64 0] 57 (0, 0))) (q1 : QL u1 [(97, [68, 111, 103, 115, 32, 38, 32, 67, 97, 116, 115])] w) (q2 : QL u2 [(97, [83, 109, 105, 116, 104])] w) (q3 : QL u3 [(99, [99, 49, 50, 51, 52, 53])] w) (q4 : QL u4 [(99, [91, 49, 57, 57, 56, 93])] w) : FL (.slice (some ⟨b, 0, none⟩) 4 4) LA15 w := by
  refine ⟨_, 4, rfl, Nat.le_refl _, by decide, (fun g => by cases g), fun i hi => ?_⟩
  have hi1 : i < 4 := hi
  match i, hi1 with
  | 0, _ => exact ⟨b, 0, u1, rfl, (Array.getElem?_eq_some_iff.1 h).1, cells_at h _ _ rfl, cells_at h _ _ rfl, cells_at h _ _ rfl, cells_at h _ _ rfl, q1⟩
  | 1, _ => exact ⟨b, 0, u2, rfl, (Array.getElem?_eq_some_iff.1 h).1, cells_at h _ _ rfl, cells_at h _ _ rfl, cells_at h _ _ rfl, cells_at h _ _ rfl, q2⟩
  | 2, _ => exact ⟨b, 0, u3, rfl, (Array.getElem?_eq_some_iff.1 h).1, cells_at h _ _ rfl, cells_at h _ _ rfl, cells_at h _ _ rfl, cells_at h _ _ rfl, q3⟩
  | 3, _ => exact ⟨b, 0, u4, rfl, (Array.getElem?_eq_some_iff.1 h).1, cells_at h _ _ rfl, cells_at h _ _ rfl, cells_at h _ _ rfl, cells_at h _ _ rfl, q4⟩
theorem FL.of15B (w : World) (b : Nat) (u1 u2 : Value) (h : w.heap[b]? = some (.cells #[.string ⟨#[49, 48, 48]⟩, .string ⟨#[32, 32]⟩, u1, .int .i64 0, .string ⟨#[50, 52, 53]⟩, .string ⟨#[32, 32]⟩, u2, .int .i64 0] 57 (0, 0))) (q1 : QL u1 [(97, [83, 77, 73, 84, 72])] w) (q2 : QL u2 [(97, [68, 111, 103, 115, 44, 32, 99, 97, 116, 115])] w) : FL (.slice (some ⟨b, 0, none⟩) 2 2) LB15 w := by
  refine ⟨_, 2, rfl, Nat.le_refl _, by decide, (fun g => by cases g), fun i hi => ?_⟩
  have hi1 : i < 2 := hi
  match i, hi1 with
  | 0, _ => exact ⟨b, 0, u1, rfl, (Array.getElem?_eq_some_iff.1 h).1, cells_at h _ _ rfl, cells_at h _ _ rfl, cells_at h _ _ rfl, cells_at h _ _ rfl, q1⟩
  | 1, _ => exact ⟨b, 0, u2, rfl, (Array.getElem?_eq_some_iff.1 h).1, cells_at h _ _ rfl, cells_at h _ _ rfl, cells_at h _ _ rfl, cells_at h _ _ rfl, q2⟩
theorem FL.of15C (w : World) (b : Nat) (u1 u2 u3 : Value) (h : w.heap[b]? = some (.cells #[.string ⟨#[49, 48, 48]⟩, .string ⟨#[32, 32]⟩, u1, .int .i64 0, .string ⟨#[50, 52, 53]⟩, .string ⟨#[32, 32]⟩, u2, .int .i64 0, .string ⟨#[50, 54, 52]⟩, .string ⟨#[32, 32]⟩, u3, .int .i64 0] 57 (0, 0))) (q1 : QL u1 [(97, [83, 109, 105, 116, 104])] w) (q2 : QL u2 [(97, [100, 111, 103, 115, 32, 99, 97, 116, 115])] w) (q3 : QL u3 [(99, [49, 57, 57, 56])] w) : FL (.slice (some ⟨b, 0, none⟩) 3 3) LC15 w := by
  refine ⟨_, 3, rfl, Nat.le_refl _, by decide, (fun g => by cases g), fun i hi => ?_⟩
  have hi1 : i < 3 := hi
  match i, hi1 with
  | 0, _ => exact ⟨b, 0, u1, rfl, (Array.getElem?_eq_some_iff.1 h).1, cells_at h _ _ rfl, cells_at h _ _ rfl, cells_at h _ _ rfl, cells_at h _ _ rfl, q1⟩
  | 1, _ => exact ⟨b, 0, u2, rfl, (Array.getElem?_eq_some_iff.1 h).1, cells_at h _ _ rfl, cells_at h _ _ rfl, cells_at h _ _ rfl, cells_at h _ _ rfl, q2⟩
  | 2, _ => exact ⟨b, 0, u3, rfl, (Array.getElem?_eq_some_iff.1 h).1, cells_at h _ _ rfl, cells_at h _ _ rfl, cells_at h _ _ rfl, cells_at h _ _ rfl, q3⟩
theorem RL.of15 (w : World) (b : Nat) (ua ub uc : Value) (h : w.heap[b]? = some (.cells #[.int .i64 1, .int .i64 3, .int .i64 1, .string ⟨#[101, 110, 103]⟩, ua, .int .i64 2, .int .i64 3, .int .i64 1, .string ⟨#[101, 110, 103]⟩, ub, .int .i64 3, .int .i64 3, .int .i64 1, .string ⟨#[101, 110, 103]⟩, uc] 33 (0, 0))) (qa : FL ua LA15 w) (qb : FL ub LB15 w) (qc : FL uc LC15 w) : RL (.slice (some ⟨b, 0, none⟩) 3 3) lAll15 w := by
  refine ⟨_, 3, rfl, Nat.le_refl _, by decide, (fun g => by cases g), fun i hi => ?_⟩
  have hi1 : i < 3 := hi
  match i, hi1 with
  | 0, _ => exact ⟨b, 0, ua, rfl, (Array.getElem?_eq_some_iff.1 h).1, cells_at h _ _ rfl, cells_at h _ _ rfl, cells_at h _ _ rfl, cells_at h _ _ rfl, cells_at h _ _ rfl, qa⟩
  | 1, _ => exact ⟨b, 0, ub, rfl, (Array.getElem?_eq_some_iff.1 h).1, cells_at h _ _ rfl, cells_at h _ _ rfl, cells_at h _ _ rfl, cells_at h _ _ rfl, cells_at h _ _ rfl, qb⟩
  | 2, _ => exact ⟨b, 0, uc, rfl, (Array.getElem?_eq_some_iff.1 h).1, cells_at h _ _ rfl, cells_at h _ _ rfl, cells_at h _ _ rfl, cells_at h _ _ rfl, cells_at h _ _ rfl, qc⟩
/-- The rule's box. -/
def MB15 (b : Nat) (v : Value) (w : World) : Prop := w.heap[b]? = some (.cells #[v, .int .i64 100] 24 (0, 0)) ∧ KL v standardM.keys w
/-- A record's box. -/
def RB15 (b : Nat) (i : Int) (l : List Fld) (u : Value) (w : World) : Prop := w.heap[b]? = some (.cells #[.int .i64 i, .int .i64 3, .int .i64 1, .string ⟨#[101, 110, 103]⟩, u] 33 (0, 0)) ∧ FL u l w
theorem MB15.after {b : Nat} {v : Value} {w w' : World} (h : MB15 b v w) (hb : Below w.heap.size w w') : MB15 b v w' := ⟨(hb.block b (Array.getElem?_eq_some_iff.1 h.1).1).trans h.1, h.2.after hb⟩
theorem RB15.after {b : Nat} {i : Int} {l : List Fld} {u : Value} {w w' : World} (h : RB15 b i l u w) (hb : Below w.heap.size w w') : RB15 b i l u w' := ⟨(hb.block b (Array.getElem?_eq_some_iff.1 h.1).1).trans h.1, h.2.after hb⟩
theorem MB15.load {b : Nat} {v : Value} {w : World} (h : MB15 b v w) : w.cell? ⟨b, 0, none⟩ = some v ∧ w.cell? ⟨b, 1, none⟩ = some (.int .i64 100) := mcells2 h.1
theorem RB15.load {b : Nat} {i : Int} {l : List Fld} {u : Value} {w : World} (h : RB15 b i l u w) :
    w.cell? ⟨b, 0, none⟩ = some (.int .i64 i) ∧ w.cell? ⟨b, 1, none⟩ = some (.int .i64 3) ∧ w.cell? ⟨b, 2, none⟩ = some (.int .i64 1) ∧ w.cell? ⟨b, 3, none⟩ = some (.string ⟨#[101, 110, 103]⟩) ∧ w.cell? ⟨b, 4, none⟩ = some u := rcells5 h.1
set_option maxHeartbeats 8000000 in
theorem lbook15_any (i : Int) (a : Option Addr) (n c : Nat) (w : World) :
    Calls Tryz.prog 29 #[.int .i64 i, .slice a n c] w fun e w' => e = .returned (.agg #[.int .i64 i, .int .i64 3, .int .i64 1, .string ⟨#[101, 110, 103]⟩, .slice a n c]) ∧ Below w.heap.size w w' := by
  obtain ⟨W0, hW0⟩ : ∃ W0, w.alloc (.cells #[.int .i64 0, .int .i64 0, .int .i64 0, .string ⟨#[]⟩, .slice none 0 0] 33) = W0 := ⟨_, rfl⟩
  have hR : W0.heap[w.heap.size]? = some (.cells #[.int .i64 0, .int .i64 0, .int .i64 0, .string ⟨#[]⟩, .slice none 0 0] 33 (0, 0)) := by rw [← hW0]; exact heap_alloc_new w _
  have b0 : Below w.heap.size w W0 := by rw [← hW0]; exact (Below.refl w.heap.size w).alloc (Nat.le_refl _) _
  obtain ⟨r0, r1, r2, r3, r4⟩ := rcells5 hR
  have s0 := Lib.frozen_of_heap hR 0
  have s1 := Lib.frozen_of_heap hR 1
  have s2 := Lib.frozen_of_heap hR 2
  have s3 := Lib.frozen_of_heap hR 3
  have s4 := Lib.frozen_of_heap hR 4
  have HW0 := Lib.hid hW0
  have hF : (((((W0.setCell ⟨w.heap.size, 0, none⟩ (.int .i64 i)).setCell ⟨w.heap.size, 1, none⟩ (.int .i64 3)).setCell ⟨w.heap.size, 2, none⟩ (.int .i64 1)).setCell ⟨w.heap.size, 3, none⟩ (.string ⟨#[101, 110, 103]⟩)).setCell ⟨w.heap.size, 4, none⟩ (.slice a n c)).heap[w.heap.size]? = some (.cells #[.int .i64 i, .int .i64 3, .int .i64 1, .string ⟨#[101, 110, 103]⟩, .slice a n c] 33 (0, 0)) := by
    simp [World.setCell, Array.getElem?_modify, hR]
  have HFin := Lib.hid hF
  have HG := Lib.hid (((((b0.setCell (p := ⟨w.heap.size, 0, none⟩) (Nat.le_refl _) (.int .i64 i)).setCell (p := ⟨w.heap.size, 1, none⟩) (Nat.le_refl _) (.int .i64 3)).setCell (p := ⟨w.heap.size, 2, none⟩) (Nat.le_refl _) (.int .i64 1)).setCell (p := ⟨w.heap.size, 3, none⟩) (Nat.le_refl _) (.string ⟨#[101, 110, 103]⟩)).setCell (p := ⟨w.heap.size, 4, none⟩) (Nat.le_refl _) (.slice a n c))
  clear hW0 hR b0 hF
  go_enter Tryz.func29, Tryz.ntmps29
  go_upto_region 1 with fail
  rw [HW0.out]
  go_wp2
  (try simp only [Exit.inBlock, Exit.then])
  refine bodyPost_ret (results_cell_row rfl _ _ w.heap.size _ _ _ _ rfl HFin.out Tryz.underlying33 rfl (by kernel_rfl)) rfl ?_
  exact ⟨rfl, HG.out⟩
abbrev boxM (w : World) (v : Value) : World := w.alloc (.cells #[v, .int .i64 100] 24)
theorem boxM_at (w : World) (v : Value) : (boxM w v).heap[w.heap.size]? = some (.cells #[v, .int .i64 100] 24 (0, 0)) := heap_alloc_new w _
theorem boxM_below (w : World) (v : Value) : Below w.heap.size w (boxM w v) := (Below.refl w.heap.size w).alloc (Nat.le_refl _) _
abbrev boxR (w : World) (i : Int) (u : Value) : World := w.alloc (.cells #[.int .i64 i, .int .i64 3, .int .i64 1, .string ⟨#[101, 110, 103]⟩, u] 33)
theorem boxR_at (w : World) (i : Int) (u : Value) : (boxR w i u).heap[w.heap.size]? = some (.cells #[.int .i64 i, .int .i64 3, .int .i64 1, .string ⟨#[101, 110, 103]⟩, u] 33 (0, 0)) := heap_alloc_new w _
theorem boxR_below (w : World) (i : Int) (u : Value) : Below w.heap.size w (boxR w i u) := (Below.refl w.heap.size w).alloc (Nat.le_refl _) _

set_option maxHeartbeats 32000000 in
set_option maxRecDepth 100000 in
theorem lalive15_any (w : World) (hE : Env w) : Calls Tryz.prog 9 #[] w fun e w' => e = .returned (.bool true) ∧ Below w.heap.size w w' := by
  have HE := Lib.hid (fun (W : World) (hb : Below w.heap.size w W) => hE.after hb)
  have cs0 : Calls Tryz.prog 13 #[] w fun e w' => ∃ v, e = .returned (.agg #[v, .int .i64 100]) ∧ KL v standardM.keys w' ∧ Below w.heap.size w w' := pStd15_any w
  have cS := Lib.hid cs0
  clear cs0
  clear hE
  go_enter Tryz.func9, Tryz.ntmps9
  go_wp2_with fail
  refine cS.out.mono ?_
  rintro e w1 ⟨v, rfl, hk1, hb1⟩
  obtain ⟨ka, kc, hv⟩ : ∃ a cap, v = .slice a 6 cap := by
    obtain ⟨a, cap, h, -⟩ := hk1
    exact ⟨a, cap, h⟩
  subst hv
  have HM := Lib.hid (show MB15 w1.heap.size (.slice ka 6 kc) (boxM w1 (.slice ka 6 kc)) from ⟨boxM_at w1 _, hk1.after (boxM_below w1 _)⟩)
  have HB := Lib.hid (hb1.trans ((boxM_below w1 (.slice ka 6 kc)).mono hb1.size))
  clear hk1 hb1 cS
  have cF : Calls Tryz.prog 30 #[.string ⟨#[50, 52, 53]⟩, .int .u8 97, .string ⟨#[68, 111, 103, 115, 32, 38, 32, 67, 97, 116, 115]⟩] (boxM w1 (.slice ka 6 kc)) fun e w' => ∃ u, e = .returned (.agg #[.string ⟨#[50, 52, 53]⟩, .string ⟨#[32, 32]⟩, u, .int .i64 0]) ∧ QL u [(97, [68, 111, 103, 115, 32, 38, 32, 67, 97, 116, 115])] w' ∧ Below (boxM w1 (.slice ka 6 kc)).heap.size (boxM w1 (.slice ka 6 kc)) w' := lfield15_any [50, 52, 53] [68, 111, 103, 115, 32, 38, 32, 67, 97, 116, 115] 97 _
  have CF := Lib.hid cF
  clear cF
  go_wp2_with fail
  refine CF.out.mono ?_
  rintro e w2 ⟨uA1, rfl, hq, hb⟩
  replace HM := Lib.hid (HM.out.after hb)
  replace HB := Lib.hid (HB.out.trans (hb.mono HB.out.size))
  have QuA1 := Lib.hid hq
  clear hb hq CF
  have cF : Calls Tryz.prog 30 #[.string ⟨#[49, 48, 48]⟩, .int .u8 97, .string ⟨#[83, 109, 105, 116, 104]⟩] w2 fun e w' => ∃ u, e = .returned (.agg #[.string ⟨#[49, 48, 48]⟩, .string ⟨#[32, 32]⟩, u, .int .i64 0]) ∧ QL u [(97, [83, 109, 105, 116, 104])] w' ∧ Below w2.heap.size w2 w' := lfield15_any [49, 48, 48] [83, 109, 105, 116, 104] 97 _
  have CF := Lib.hid cF
  clear cF
  go_wp2_with fail
  refine CF.out.mono ?_
  rintro e w3 ⟨uA2, rfl, hq, hb⟩
  replace HM := Lib.hid (HM.out.after hb)
  replace QuA1 := Lib.hid (QuA1.out.after hb)
  replace HB := Lib.hid (HB.out.trans (hb.mono HB.out.size))
  have QuA2 := Lib.hid hq
  clear hb hq CF
  have cF : Calls Tryz.prog 30 #[.string ⟨#[50, 54, 52]⟩, .int .u8 99, .string ⟨#[99, 49, 50, 51, 52, 53]⟩] w3 fun e w' => ∃ u, e = .returned (.agg #[.string ⟨#[50, 54, 52]⟩, .string ⟨#[32, 32]⟩, u, .int .i64 0]) ∧ QL u [(99, [99, 49, 50, 51, 52, 53])] w' ∧ Below w3.heap.size w3 w' := lfield15_any [50, 54, 52] [99, 49, 50, 51, 52, 53] 99 _
  have CF := Lib.hid cF
  clear cF
  go_wp2_with fail
  refine CF.out.mono ?_
  rintro e w4 ⟨uA3, rfl, hq, hb⟩
  replace HM := Lib.hid (HM.out.after hb)
  replace QuA1 := Lib.hid (QuA1.out.after hb)
  replace QuA2 := Lib.hid (QuA2.out.after hb)
  replace HB := Lib.hid (HB.out.trans (hb.mono HB.out.size))
  have QuA3 := Lib.hid hq
  clear hb hq CF
  have cF : Calls Tryz.prog 30 #[.string ⟨#[50, 54, 52]⟩, .int .u8 99, .string ⟨#[91, 49, 57, 57, 56, 93]⟩] w4 fun e w' => ∃ u, e = .returned (.agg #[.string ⟨#[50, 54, 52]⟩, .string ⟨#[32, 32]⟩, u, .int .i64 0]) ∧ QL u [(99, [91, 49, 57, 57, 56, 93])] w' ∧ Below w4.heap.size w4 w' := lfield15_any [50, 54, 52] [91, 49, 57, 57, 56, 93] 99 _
  have CF := Lib.hid cF
  clear cF
  go_wp2_with fail
  refine CF.out.mono ?_
  rintro e w5 ⟨uA4, rfl, hq, hb⟩
  replace HM := Lib.hid (HM.out.after hb)
  replace QuA1 := Lib.hid (QuA1.out.after hb)
  replace QuA2 := Lib.hid (QuA2.out.after hb)
  replace QuA3 := Lib.hid (QuA3.out.after hb)
  replace HB := Lib.hid (HB.out.trans (hb.mono HB.out.size))
  have QuA4 := Lib.hid hq
  clear hb hq CF
  have hal := heap_alloc_new w5 (.cells #[.string ⟨#[50, 52, 53]⟩, .string ⟨#[32, 32]⟩, uA1, .int .i64 0, .string ⟨#[49, 48, 48]⟩, .string ⟨#[32, 32]⟩, uA2, .int .i64 0, .string ⟨#[50, 54, 52]⟩, .string ⟨#[32, 32]⟩, uA3, .int .i64 0, .string ⟨#[50, 54, 52]⟩, .string ⟨#[32, 32]⟩, uA4, .int .i64 0] 57)
  have hb := (Below.refl w5.heap.size w5).alloc (Nat.le_refl _) (.cells #[.string ⟨#[50, 52, 53]⟩, .string ⟨#[32, 32]⟩, uA1, .int .i64 0, .string ⟨#[49, 48, 48]⟩, .string ⟨#[32, 32]⟩, uA2, .int .i64 0, .string ⟨#[50, 54, 52]⟩, .string ⟨#[32, 32]⟩, uA3, .int .i64 0, .string ⟨#[50, 54, 52]⟩, .string ⟨#[32, 32]⟩, uA4, .int .i64 0] 57)
  have HFA := Lib.hid (FL.of15A _ _ uA1 uA2 uA3 uA4 hal (QuA1.out.after hb) (QuA2.out.after hb) (QuA3.out.after hb) (QuA4.out.after hb))
  clear QuA1 QuA2 QuA3 QuA4 hal
  replace HM := Lib.hid (HM.out.after hb)
  replace HB := Lib.hid (HB.out.trans (hb.mono HB.out.size))
  have CB := Lib.hid (lbook15_any 1 (some ⟨w5.heap.size, 0, none⟩) 4 4 (w5.alloc (.cells #[.string ⟨#[50, 52, 53]⟩, .string ⟨#[32, 32]⟩, uA1, .int .i64 0, .string ⟨#[49, 48, 48]⟩, .string ⟨#[32, 32]⟩, uA2, .int .i64 0, .string ⟨#[50, 54, 52]⟩, .string ⟨#[32, 32]⟩, uA3, .int .i64 0, .string ⟨#[50, 54, 52]⟩, .string ⟨#[32, 32]⟩, uA4, .int .i64 0] 57)))
  clear hb
  go_wp2_with fail
  refine CB.out.mono ?_
  rintro e w6 ⟨rfl, hb⟩
  replace HM := Lib.hid (HM.out.after hb)
  replace HB := Lib.hid (HB.out.trans (hb.mono HB.out.size))
  replace HFA := Lib.hid (HFA.out.after hb)
  clear hb CB
  have hb := boxR_below w6 1 (.slice (some ⟨w5.heap.size, 0, none⟩) 4 4)
  replace HM := Lib.hid (HM.out.after hb)
  replace HB := Lib.hid (HB.out.trans (hb.mono HB.out.size))
  have HRA := Lib.hid (show RB15 w6.heap.size 1 LA15 (.slice (some ⟨w5.heap.size, 0, none⟩) 4 4) (boxR w6 1 (.slice (some ⟨w5.heap.size, 0, none⟩) 4 4)) from ⟨boxR_at _ _ _, HFA.out.after hb⟩)
  clear hb HFA
  have cF : Calls Tryz.prog 30 #[.string ⟨#[49, 48, 48]⟩, .int .u8 97, .string ⟨#[83, 77, 73, 84, 72]⟩] (boxR w6 1 (.slice (some ⟨w5.heap.size, 0, none⟩) 4 4)) fun e w' => ∃ u, e = .returned (.agg #[.string ⟨#[49, 48, 48]⟩, .string ⟨#[32, 32]⟩, u, .int .i64 0]) ∧ QL u [(97, [83, 77, 73, 84, 72])] w' ∧ Below (boxR w6 1 (.slice (some ⟨w5.heap.size, 0, none⟩) 4 4)).heap.size (boxR w6 1 (.slice (some ⟨w5.heap.size, 0, none⟩) 4 4)) w' := lfield15_any [49, 48, 48] [83, 77, 73, 84, 72] 97 _
  have CF := Lib.hid cF
  clear cF
  go_wp2_with fail
  refine CF.out.mono ?_
  rintro e w7 ⟨uB1, rfl, hq, hb⟩
  replace HM := Lib.hid (HM.out.after hb)
  replace HRA := Lib.hid (HRA.out.after hb)
  replace HB := Lib.hid (HB.out.trans (hb.mono HB.out.size))
  have QuB1 := Lib.hid hq
  clear hb hq CF
  have cF : Calls Tryz.prog 30 #[.string ⟨#[50, 52, 53]⟩, .int .u8 97, .string ⟨#[68, 111, 103, 115, 44, 32, 99, 97, 116, 115]⟩] w7 fun e w' => ∃ u, e = .returned (.agg #[.string ⟨#[50, 52, 53]⟩, .string ⟨#[32, 32]⟩, u, .int .i64 0]) ∧ QL u [(97, [68, 111, 103, 115, 44, 32, 99, 97, 116, 115])] w' ∧ Below w7.heap.size w7 w' := lfield15_any [50, 52, 53] [68, 111, 103, 115, 44, 32, 99, 97, 116, 115] 97 _
  have CF := Lib.hid cF
  clear cF
  go_wp2_with fail
  refine CF.out.mono ?_
  rintro e w8 ⟨uB2, rfl, hq, hb⟩
  replace HM := Lib.hid (HM.out.after hb)
  replace HRA := Lib.hid (HRA.out.after hb)
  replace QuB1 := Lib.hid (QuB1.out.after hb)
  replace HB := Lib.hid (HB.out.trans (hb.mono HB.out.size))
  have QuB2 := Lib.hid hq
  clear hb hq CF
  have hal := heap_alloc_new w8 (.cells #[.string ⟨#[49, 48, 48]⟩, .string ⟨#[32, 32]⟩, uB1, .int .i64 0, .string ⟨#[50, 52, 53]⟩, .string ⟨#[32, 32]⟩, uB2, .int .i64 0] 57)
  have hb := (Below.refl w8.heap.size w8).alloc (Nat.le_refl _) (.cells #[.string ⟨#[49, 48, 48]⟩, .string ⟨#[32, 32]⟩, uB1, .int .i64 0, .string ⟨#[50, 52, 53]⟩, .string ⟨#[32, 32]⟩, uB2, .int .i64 0] 57)
  have HFB := Lib.hid (FL.of15B _ _ uB1 uB2 hal (QuB1.out.after hb) (QuB2.out.after hb))
  clear QuB1 QuB2 hal
  replace HM := Lib.hid (HM.out.after hb)
  replace HRA := Lib.hid (HRA.out.after hb)
  replace HB := Lib.hid (HB.out.trans (hb.mono HB.out.size))
  have CB := Lib.hid (lbook15_any 2 (some ⟨w8.heap.size, 0, none⟩) 2 2 (w8.alloc (.cells #[.string ⟨#[49, 48, 48]⟩, .string ⟨#[32, 32]⟩, uB1, .int .i64 0, .string ⟨#[50, 52, 53]⟩, .string ⟨#[32, 32]⟩, uB2, .int .i64 0] 57)))
  clear hb
  go_wp2_with fail
  refine CB.out.mono ?_
  rintro e w9 ⟨rfl, hb⟩
  replace HM := Lib.hid (HM.out.after hb)
  replace HRA := Lib.hid (HRA.out.after hb)
  replace HB := Lib.hid (HB.out.trans (hb.mono HB.out.size))
  replace HFB := Lib.hid (HFB.out.after hb)
  clear hb CB
  have hb := boxR_below w9 2 (.slice (some ⟨w8.heap.size, 0, none⟩) 2 2)
  replace HM := Lib.hid (HM.out.after hb)
  replace HRA := Lib.hid (HRA.out.after hb)
  replace HB := Lib.hid (HB.out.trans (hb.mono HB.out.size))
  have HRB := Lib.hid (show RB15 w9.heap.size 2 LB15 (.slice (some ⟨w8.heap.size, 0, none⟩) 2 2) (boxR w9 2 (.slice (some ⟨w8.heap.size, 0, none⟩) 2 2)) from ⟨boxR_at _ _ _, HFB.out.after hb⟩)
  clear hb HFB
  have cF : Calls Tryz.prog 30 #[.string ⟨#[49, 48, 48]⟩, .int .u8 97, .string ⟨#[83, 109, 105, 116, 104]⟩] (boxR w9 2 (.slice (some ⟨w8.heap.size, 0, none⟩) 2 2)) fun e w' => ∃ u, e = .returned (.agg #[.string ⟨#[49, 48, 48]⟩, .string ⟨#[32, 32]⟩, u, .int .i64 0]) ∧ QL u [(97, [83, 109, 105, 116, 104])] w' ∧ Below (boxR w9 2 (.slice (some ⟨w8.heap.size, 0, none⟩) 2 2)).heap.size (boxR w9 2 (.slice (some ⟨w8.heap.size, 0, none⟩) 2 2)) w' := lfield15_any [49, 48, 48] [83, 109, 105, 116, 104] 97 _
  have CF := Lib.hid cF
  clear cF
  go_wp2_with fail
  refine CF.out.mono ?_
  rintro e w10 ⟨uC1, rfl, hq, hb⟩
  replace HM := Lib.hid (HM.out.after hb)
  replace HRA := Lib.hid (HRA.out.after hb)
  replace HRB := Lib.hid (HRB.out.after hb)
  replace HB := Lib.hid (HB.out.trans (hb.mono HB.out.size))
  have QuC1 := Lib.hid hq
  clear hb hq CF
  have cF : Calls Tryz.prog 30 #[.string ⟨#[50, 52, 53]⟩, .int .u8 97, .string ⟨#[100, 111, 103, 115, 32, 99, 97, 116, 115]⟩] w10 fun e w' => ∃ u, e = .returned (.agg #[.string ⟨#[50, 52, 53]⟩, .string ⟨#[32, 32]⟩, u, .int .i64 0]) ∧ QL u [(97, [100, 111, 103, 115, 32, 99, 97, 116, 115])] w' ∧ Below w10.heap.size w10 w' := lfield15_any [50, 52, 53] [100, 111, 103, 115, 32, 99, 97, 116, 115] 97 _
  have CF := Lib.hid cF
  clear cF
  go_wp2_with fail
  refine CF.out.mono ?_
  rintro e w11 ⟨uC2, rfl, hq, hb⟩
  replace HM := Lib.hid (HM.out.after hb)
  replace HRA := Lib.hid (HRA.out.after hb)
  replace HRB := Lib.hid (HRB.out.after hb)
  replace QuC1 := Lib.hid (QuC1.out.after hb)
  replace HB := Lib.hid (HB.out.trans (hb.mono HB.out.size))
  have QuC2 := Lib.hid hq
  clear hb hq CF
  have cF : Calls Tryz.prog 30 #[.string ⟨#[50, 54, 52]⟩, .int .u8 99, .string ⟨#[49, 57, 57, 56]⟩] w11 fun e w' => ∃ u, e = .returned (.agg #[.string ⟨#[50, 54, 52]⟩, .string ⟨#[32, 32]⟩, u, .int .i64 0]) ∧ QL u [(99, [49, 57, 57, 56])] w' ∧ Below w11.heap.size w11 w' := lfield15_any [50, 54, 52] [49, 57, 57, 56] 99 _
  have CF := Lib.hid cF
  clear cF
  go_wp2_with fail
  refine CF.out.mono ?_
  rintro e w12 ⟨uC3, rfl, hq, hb⟩
  replace HM := Lib.hid (HM.out.after hb)
  replace HRA := Lib.hid (HRA.out.after hb)
  replace HRB := Lib.hid (HRB.out.after hb)
  replace QuC1 := Lib.hid (QuC1.out.after hb)
  replace QuC2 := Lib.hid (QuC2.out.after hb)
  replace HB := Lib.hid (HB.out.trans (hb.mono HB.out.size))
  have QuC3 := Lib.hid hq
  clear hb hq CF
  have hal := heap_alloc_new w12 (.cells #[.string ⟨#[49, 48, 48]⟩, .string ⟨#[32, 32]⟩, uC1, .int .i64 0, .string ⟨#[50, 52, 53]⟩, .string ⟨#[32, 32]⟩, uC2, .int .i64 0, .string ⟨#[50, 54, 52]⟩, .string ⟨#[32, 32]⟩, uC3, .int .i64 0] 57)
  have hb := (Below.refl w12.heap.size w12).alloc (Nat.le_refl _) (.cells #[.string ⟨#[49, 48, 48]⟩, .string ⟨#[32, 32]⟩, uC1, .int .i64 0, .string ⟨#[50, 52, 53]⟩, .string ⟨#[32, 32]⟩, uC2, .int .i64 0, .string ⟨#[50, 54, 52]⟩, .string ⟨#[32, 32]⟩, uC3, .int .i64 0] 57)
  have HFC := Lib.hid (FL.of15C _ _ uC1 uC2 uC3 hal (QuC1.out.after hb) (QuC2.out.after hb) (QuC3.out.after hb))
  clear QuC1 QuC2 QuC3 hal
  replace HM := Lib.hid (HM.out.after hb)
  replace HRA := Lib.hid (HRA.out.after hb)
  replace HRB := Lib.hid (HRB.out.after hb)
  replace HB := Lib.hid (HB.out.trans (hb.mono HB.out.size))
  have CB := Lib.hid (lbook15_any 3 (some ⟨w12.heap.size, 0, none⟩) 3 3 (w12.alloc (.cells #[.string ⟨#[49, 48, 48]⟩, .string ⟨#[32, 32]⟩, uC1, .int .i64 0, .string ⟨#[50, 52, 53]⟩, .string ⟨#[32, 32]⟩, uC2, .int .i64 0, .string ⟨#[50, 54, 52]⟩, .string ⟨#[32, 32]⟩, uC3, .int .i64 0] 57)))
  clear hb
  go_wp2_with fail
  refine CB.out.mono ?_
  rintro e w13 ⟨rfl, hb⟩
  replace HM := Lib.hid (HM.out.after hb)
  replace HRA := Lib.hid (HRA.out.after hb)
  replace HRB := Lib.hid (HRB.out.after hb)
  replace HB := Lib.hid (HB.out.trans (hb.mono HB.out.size))
  replace HFC := Lib.hid (HFC.out.after hb)
  clear hb CB
  have hb := boxR_below w13 3 (.slice (some ⟨w12.heap.size, 0, none⟩) 3 3)
  replace HM := Lib.hid (HM.out.after hb)
  replace HRA := Lib.hid (HRA.out.after hb)
  replace HRB := Lib.hid (HRB.out.after hb)
  replace HB := Lib.hid (HB.out.trans (hb.mono HB.out.size))
  have HRC := Lib.hid (show RB15 w13.heap.size 3 LC15 (.slice (some ⟨w12.heap.size, 0, none⟩) 3 3) (boxR w13 3 (.slice (some ⟨w12.heap.size, 0, none⟩) 3 3)) from ⟨boxR_at _ _ _, HFC.out.after hb⟩)
  clear hb HFC
  obtain ⟨m0, m1⟩ := HM.out.load
  obtain ⟨xA0, xA1, xA2, xA3, xA4⟩ := HRA.out.load
  obtain ⟨xB0, xB1, xB2, xB3, xB4⟩ := HRB.out.load
  obtain ⟨xC0, xC1, xC2, xC3, xC4⟩ := HRC.out.load
  have hal := heap_alloc_new (boxR w13 3 (.slice (some ⟨w12.heap.size, 0, none⟩) 3 3)) (.cells #[.int .i64 1, .int .i64 3, .int .i64 1, .string ⟨#[101, 110, 103]⟩, (.slice (some ⟨w5.heap.size, 0, none⟩) 4 4), .int .i64 2, .int .i64 3, .int .i64 1, .string ⟨#[101, 110, 103]⟩, (.slice (some ⟨w8.heap.size, 0, none⟩) 2 2), .int .i64 3, .int .i64 3, .int .i64 1, .string ⟨#[101, 110, 103]⟩, (.slice (some ⟨w12.heap.size, 0, none⟩) 3 3)] 33)
  have hb := (Below.refl (boxR w13 3 (.slice (some ⟨w12.heap.size, 0, none⟩) 3 3)).heap.size (boxR w13 3 (.slice (some ⟨w12.heap.size, 0, none⟩) 3 3))).alloc (Nat.le_refl _) (.cells #[.int .i64 1, .int .i64 3, .int .i64 1, .string ⟨#[101, 110, 103]⟩, (.slice (some ⟨w5.heap.size, 0, none⟩) 4 4), .int .i64 2, .int .i64 3, .int .i64 1, .string ⟨#[101, 110, 103]⟩, (.slice (some ⟨w8.heap.size, 0, none⟩) 2 2), .int .i64 3, .int .i64 3, .int .i64 1, .string ⟨#[101, 110, 103]⟩, (.slice (some ⟨w12.heap.size, 0, none⟩) 3 3)] 33)
  have hL := RL.of15 _ _ _ _ _ hal (HRA.out.2.after hb) (HRB.out.2.after hb) (HRC.out.2.after hb)
  have hsz : (boxR w13 3 (.slice (some ⟨w12.heap.size, 0, none⟩) 3 3)).heap.size = w13.heap.size + 1 := by simp [boxR]
  rw [hsz] at hL
  have HL := Lib.hid hL
  clear hL hsz
  clear hal
  replace HM := Lib.hid (HM.out.after hb)
  replace HRA := Lib.hid (HRA.out.after hb)
  replace HRB := Lib.hid (HRB.out.after hb)
  replace HRC := Lib.hid (HRC.out.after hb)
  replace HB := Lib.hid (HB.out.trans (hb.mono HB.out.size))
  obtain ⟨m0', m1'⟩ := HM.out.load
  have cR := pRight15_any standardM (.slice ka 6 kc) ((boxR w13 3 (.slice (some ⟨w12.heap.size, 0, none⟩) 3 3)).alloc (.cells #[.int .i64 1, .int .i64 3, .int .i64 1, .string ⟨#[101, 110, 103]⟩, (.slice (some ⟨w5.heap.size, 0, none⟩) 4 4), .int .i64 2, .int .i64 3, .int .i64 1, .string ⟨#[101, 110, 103]⟩, (.slice (some ⟨w8.heap.size, 0, none⟩) 2 2), .int .i64 3, .int .i64 3, .int .i64 1, .string ⟨#[101, 110, 103]⟩, (.slice (some ⟨w12.heap.size, 0, none⟩) 3 3)] 33)) (HE.out _ HB.out) HM.out.2
  rw [ex15_right] at cR
  have CC := Lib.hid (cR)
  go_wp2_with fail
  refine CC.out.mono ?_
  rintro e w14 ⟨rfl, hb⟩
  replace HM := Lib.hid (HM.out.after hb)
  replace HRA := Lib.hid (HRA.out.after hb)
  replace HRB := Lib.hid (HRB.out.after hb)
  replace HRC := Lib.hid (HRC.out.after hb)
  replace HL := Lib.hid (HL.out.after hb)
  replace HB := Lib.hid (HB.out.trans (hb.mono HB.out.size))
  clear hb CC cR m0' m1'
  clear m0 m1 xA0 xA1 xA2 xA3 xA4 xB0 xB1 xB2 xB3 xB4 xC0 xC1 xC2 xC3 xC4
  obtain ⟨m0, m1⟩ := HM.out.load
  obtain ⟨xA0, xA1, xA2, xA3, xA4⟩ := HRA.out.load
  obtain ⟨xB0, xB1, xB2, xB3, xB4⟩ := HRB.out.load
  obtain ⟨xC0, xC1, xC2, xC3, xC4⟩ := HRC.out.load
  have cR := pKeys_any k1_15 (by decide) (by decide) rA15 (.slice (some ⟨w5.heap.size, 0, none⟩) 4 4) w14 (HE.out _ HB.out) HRA.out.2 ex15_okA
  rw [ex15_k1] at cR
  have CC := Lib.hid (cR)
  go_wp2_with fail
  refine CC.out.mono ?_
  rintro e w15 ⟨vk, rfl, hnr, hb⟩
  replace HM := Lib.hid (HM.out.after hb)
  replace HRA := Lib.hid (HRA.out.after hb)
  replace HRB := Lib.hid (HRB.out.after hb)
  replace HRC := Lib.hid (HRC.out.after hb)
  replace HL := Lib.hid (HL.out.after hb)
  replace HB := Lib.hid (HB.out.trans (hb.mono HB.out.size))
  have hal := heap_alloc_new w15 (.cells #[.string ⟨#[100, 111, 103, 115, 32, 99, 97, 116, 115]⟩] 9)
  have hb2 := (Below.refl w15.heap.size w15).alloc (Nat.le_refl _) (.cells #[.string ⟨#[100, 111, 103, 115, 32, 99, 97, 116, 115]⟩] 9)
  replace HM := Lib.hid (HM.out.after hb2)
  replace HRA := Lib.hid (HRA.out.after hb2)
  replace HRB := Lib.hid (HRB.out.after hb2)
  replace HRC := Lib.hid (HRC.out.after hb2)
  replace HL := Lib.hid (HL.out.after hb2)
  replace HB := Lib.hid (HB.out.trans (hb2.mono HB.out.size))
  have cT := refTexts_any [[100, 111, 103, 115, 32, 99, 97, 116, 115]] [[100, 111, 103, 115, 32, 99, 97, 116, 115]] vk _ (w15.alloc (.cells #[.string ⟨#[100, 111, 103, 115, 32, 99, 97, 116, 115]⟩] 9)) (hnr.bl.after hb2) (BL.of15 _ w15.heap.size [100, 111, 103, 115, 32, 99, 97, 116, 115] hal) true (by decide)
  clear hb CC cR hal hb2 hnr
  clear m0 m1 xA0 xA1 xA2 xA3 xA4 xB0 xB1 xB2 xB3 xB4 xC0 xC1 xC2 xC3 xC4
  have CC := Lib.hid (cT)
  go_wp2_with fail
  refine CC.out.mono ?_
  rintro e w16 ⟨rfl, hb⟩
  replace HM := Lib.hid (HM.out.after hb)
  replace HRA := Lib.hid (HRA.out.after hb)
  replace HRB := Lib.hid (HRB.out.after hb)
  replace HRC := Lib.hid (HRC.out.after hb)
  replace HL := Lib.hid (HL.out.after hb)
  replace HB := Lib.hid (HB.out.trans (hb.mono HB.out.size))
  clear hb CC cT
  obtain ⟨m0, m1⟩ := HM.out.load
  obtain ⟨xA0, xA1, xA2, xA3, xA4⟩ := HRA.out.load
  obtain ⟨xB0, xB1, xB2, xB3, xB4⟩ := HRB.out.load
  obtain ⟨xC0, xC1, xC2, xC3, xC4⟩ := HRC.out.load
  have cR := pKeys_any k3_15 (by decide) (by decide) rA15 (.slice (some ⟨w5.heap.size, 0, none⟩) 4 4) w16 (HE.out _ HB.out) HRA.out.2 ex15_okA
  rw [ex15_k3] at cR
  have CC := Lib.hid (cR)
  go_wp2_with fail
  refine CC.out.mono ?_
  rintro e w17 ⟨vk, rfl, hnr, hb⟩
  replace HM := Lib.hid (HM.out.after hb)
  replace HRA := Lib.hid (HRA.out.after hb)
  replace HRB := Lib.hid (HRB.out.after hb)
  replace HRC := Lib.hid (HRC.out.after hb)
  replace HL := Lib.hid (HL.out.after hb)
  replace HB := Lib.hid (HB.out.trans (hb.mono HB.out.size))
  have hal := heap_alloc_new w17 (.cells #[.string ⟨#[100, 111, 103, 115]⟩] 9)
  have hb2 := (Below.refl w17.heap.size w17).alloc (Nat.le_refl _) (.cells #[.string ⟨#[100, 111, 103, 115]⟩] 9)
  replace HM := Lib.hid (HM.out.after hb2)
  replace HRA := Lib.hid (HRA.out.after hb2)
  replace HRB := Lib.hid (HRB.out.after hb2)
  replace HRC := Lib.hid (HRC.out.after hb2)
  replace HL := Lib.hid (HL.out.after hb2)
  replace HB := Lib.hid (HB.out.trans (hb2.mono HB.out.size))
  have cT := refTexts_any [[100, 111, 103, 115]] [[100, 111, 103, 115]] vk _ (w17.alloc (.cells #[.string ⟨#[100, 111, 103, 115]⟩] 9)) (hnr.bl.after hb2) (BL.of15 _ w17.heap.size [100, 111, 103, 115] hal) true (by decide)
  clear hb CC cR hal hb2 hnr
  clear m0 m1 xA0 xA1 xA2 xA3 xA4 xB0 xB1 xB2 xB3 xB4 xC0 xC1 xC2 xC3 xC4
  have CC := Lib.hid (cT)
  go_wp2_with fail
  refine CC.out.mono ?_
  rintro e w18 ⟨rfl, hb⟩
  replace HM := Lib.hid (HM.out.after hb)
  replace HRA := Lib.hid (HRA.out.after hb)
  replace HRB := Lib.hid (HRB.out.after hb)
  replace HRC := Lib.hid (HRC.out.after hb)
  replace HL := Lib.hid (HL.out.after hb)
  replace HB := Lib.hid (HB.out.trans (hb.mono HB.out.size))
  clear hb CC cT
  obtain ⟨m0, m1⟩ := HM.out.load
  obtain ⟨xA0, xA1, xA2, xA3, xA4⟩ := HRA.out.load
  obtain ⟨xB0, xB1, xB2, xB3, xB4⟩ := HRB.out.load
  obtain ⟨xC0, xC1, xC2, xC3, xC4⟩ := HRC.out.load
  have cR := pKeys_any k4_15 (by decide) (by decide) rA15 (.slice (some ⟨w5.heap.size, 0, none⟩) 4 4) w18 (HE.out _ HB.out) HRA.out.2 ex15_okA
  rw [ex15_k4] at cR
  have CC := Lib.hid (cR)
  go_wp2_with fail
  refine CC.out.mono ?_
  rintro e w19 ⟨vk, rfl, hnr, hb⟩
  replace HM := Lib.hid (HM.out.after hb)
  replace HRA := Lib.hid (HRA.out.after hb)
  replace HRB := Lib.hid (HRB.out.after hb)
  replace HRC := Lib.hid (HRC.out.after hb)
  replace HL := Lib.hid (HL.out.after hb)
  replace HB := Lib.hid (HB.out.trans (hb.mono HB.out.size))
  have hal := heap_alloc_new w19 (.cells #[.string ⟨#[49, 57, 57, 56]⟩] 9)
  have hb2 := (Below.refl w19.heap.size w19).alloc (Nat.le_refl _) (.cells #[.string ⟨#[49, 57, 57, 56]⟩] 9)
  replace HM := Lib.hid (HM.out.after hb2)
  replace HRA := Lib.hid (HRA.out.after hb2)
  replace HRB := Lib.hid (HRB.out.after hb2)
  replace HRC := Lib.hid (HRC.out.after hb2)
  replace HL := Lib.hid (HL.out.after hb2)
  replace HB := Lib.hid (HB.out.trans (hb2.mono HB.out.size))
  have cT := refTexts_any [[49, 57, 57, 56]] [[49, 57, 57, 56]] vk _ (w19.alloc (.cells #[.string ⟨#[49, 57, 57, 56]⟩] 9)) (hnr.bl.after hb2) (BL.of15 _ w19.heap.size [49, 57, 57, 56] hal) true (by decide)
  clear hb CC cR hal hb2 hnr
  clear m0 m1 xA0 xA1 xA2 xA3 xA4 xB0 xB1 xB2 xB3 xB4 xC0 xC1 xC2 xC3 xC4
  have CC := Lib.hid (cT)
  go_wp2_with fail
  refine CC.out.mono ?_
  rintro e w20 ⟨rfl, hb⟩
  replace HM := Lib.hid (HM.out.after hb)
  replace HRA := Lib.hid (HRA.out.after hb)
  replace HRB := Lib.hid (HRB.out.after hb)
  replace HRC := Lib.hid (HRC.out.after hb)
  replace HL := Lib.hid (HL.out.after hb)
  replace HB := Lib.hid (HB.out.trans (hb.mono HB.out.size))
  clear hb CC cT
  obtain ⟨m0, m1⟩ := HM.out.load
  obtain ⟨xA0, xA1, xA2, xA3, xA4⟩ := HRA.out.load
  obtain ⟨xB0, xB1, xB2, xB3, xB4⟩ := HRB.out.load
  obtain ⟨xC0, xC1, xC2, xC3, xC4⟩ := HRC.out.load
  have cR := pScore_any standardM (.slice ka 6 kc) rA15 rB15 (.slice (some ⟨w5.heap.size, 0, none⟩) 4 4) (.slice (some ⟨w8.heap.size, 0, none⟩) 2 2) w20 (HE.out _ HB.out) HM.out.2 ex15_okM ex15_okN HRA.out.2 HRB.out.2 ex15_okA ex15_okB
  rw [ex15_s1] at cR
  have CC := Lib.hid (cR)
  go_wp2_with fail
  refine CC.out.mono ?_
  rintro e w21 ⟨rfl, hb⟩
  replace HM := Lib.hid (HM.out.after hb)
  replace HRA := Lib.hid (HRA.out.after hb)
  replace HRB := Lib.hid (HRB.out.after hb)
  replace HRC := Lib.hid (HRC.out.after hb)
  replace HL := Lib.hid (HL.out.after hb)
  replace HB := Lib.hid (HB.out.trans (hb.mono HB.out.size))
  clear hb CC cR
  clear m0 m1 xA0 xA1 xA2 xA3 xA4 xB0 xB1 xB2 xB3 xB4 xC0 xC1 xC2 xC3 xC4
  obtain ⟨m0, m1⟩ := HM.out.load
  obtain ⟨xA0, xA1, xA2, xA3, xA4⟩ := HRA.out.load
  obtain ⟨xB0, xB1, xB2, xB3, xB4⟩ := HRB.out.load
  obtain ⟨xC0, xC1, xC2, xC3, xC4⟩ := HRC.out.load
  have cR := pScore_any standardM (.slice ka 6 kc) rA15 rC15 (.slice (some ⟨w5.heap.size, 0, none⟩) 4 4) (.slice (some ⟨w12.heap.size, 0, none⟩) 3 3) w21 (HE.out _ HB.out) HM.out.2 ex15_okM ex15_okN HRA.out.2 HRC.out.2 ex15_okA ex15_okC
  rw [ex15_s2] at cR
  have CC := Lib.hid (cR)
  go_wp2_with fail
  refine CC.out.mono ?_
  rintro e w22 ⟨rfl, hb⟩
  replace HM := Lib.hid (HM.out.after hb)
  replace HRA := Lib.hid (HRA.out.after hb)
  replace HRB := Lib.hid (HRB.out.after hb)
  replace HRC := Lib.hid (HRC.out.after hb)
  replace HL := Lib.hid (HL.out.after hb)
  replace HB := Lib.hid (HB.out.trans (hb.mono HB.out.size))
  clear hb CC cR
  clear m0 m1 xA0 xA1 xA2 xA3 xA4 xB0 xB1 xB2 xB3 xB4 xC0 xC1 xC2 xC3 xC4
  obtain ⟨m0, m1⟩ := HM.out.load
  obtain ⟨xA0, xA1, xA2, xA3, xA4⟩ := HRA.out.load
  obtain ⟨xB0, xB1, xB2, xB3, xB4⟩ := HRB.out.load
  obtain ⟨xC0, xC1, xC2, xC3, xC4⟩ := HRC.out.load
  have cR := pFind_any standardM (.slice ka 6 kc) lAll15 (.slice (some ⟨w13.heap.size + 1, 0, none⟩) 3 3) rA15 (.slice (some ⟨w5.heap.size, 0, none⟩) 4 4) w22 (HE.out _ HB.out) HM.out.2 ex15_okM ex15_okN HL.out ex15_okL (by decide) ex15_nd HRA.out.2 ex15_okA
  rw [ex15_f] at cR
  have CC := Lib.hid (cR)
  go_wp2_with fail
  refine CC.out.mono ?_
  rintro e w23 ⟨vk, rfl, hnr, hb⟩
  replace HM := Lib.hid (HM.out.after hb)
  replace HRA := Lib.hid (HRA.out.after hb)
  replace HRB := Lib.hid (HRB.out.after hb)
  replace HRC := Lib.hid (HRC.out.after hb)
  replace HL := Lib.hid (HL.out.after hb)
  replace HB := Lib.hid (HB.out.trans (hb.mono HB.out.size))
  have hal := heap_alloc_new w23 (.cells #[.int .i64 3] 3)
  have hb2 := (Below.refl w23.heap.size w23).alloc (Nat.le_refl _) (.cells #[.int .i64 3] 3)
  replace HM := Lib.hid (HM.out.after hb2)
  replace HRA := Lib.hid (HRA.out.after hb2)
  replace HRB := Lib.hid (HRB.out.after hb2)
  replace HRC := Lib.hid (HRC.out.after hb2)
  replace HL := Lib.hid (HL.out.after hb2)
  replace HB := Lib.hid (HB.out.trans (hb2.mono HB.out.size))
  have cT := refInts_any vk _ [3] [3] (w23.alloc (.cells #[.int .i64 3] 3)) (hnr.after hb2) (IL.of15 _ w23.heap.size 3 hal) (by decide) (by decide) true (by decide)
  clear hb CC cR hal hb2 hnr
  clear m0 m1 xA0 xA1 xA2 xA3 xA4 xB0 xB1 xB2 xB3 xB4 xC0 xC1 xC2 xC3 xC4
  have CC := Lib.hid (cT)
  go_wp2_with fail
  refine CC.out.mono ?_
  rintro e w24 ⟨rfl, hb⟩
  replace HM := Lib.hid (HM.out.after hb)
  replace HRA := Lib.hid (HRA.out.after hb)
  replace HRB := Lib.hid (HRB.out.after hb)
  replace HRC := Lib.hid (HRC.out.after hb)
  replace HL := Lib.hid (HL.out.after hb)
  replace HB := Lib.hid (HB.out.trans (hb.mono HB.out.size))
  clear hb CC cT
  obtain ⟨m0, m1⟩ := HM.out.load
  obtain ⟨xA0, xA1, xA2, xA3, xA4⟩ := HRA.out.load
  obtain ⟨xB0, xB1, xB2, xB3, xB4⟩ := HRB.out.load
  obtain ⟨xC0, xC1, xC2, xC3, xC4⟩ := HRC.out.load
  have cR := pPairs_any standardM (.slice ka 6 kc) lAll15 (.slice (some ⟨w13.heap.size + 1, 0, none⟩) 3 3) w24 (HE.out _ HB.out) HM.out.2 ex15_okM ex15_okN HL.out ex15_okL (by decide) ex15_nd
  rw [ex15_p] at cR
  have CC := Lib.hid (cR)
  go_wp2_with fail
  refine CC.out.mono ?_
  rintro e w25 ⟨vk, rfl, hnr, hb⟩
  replace HM := Lib.hid (HM.out.after hb)
  replace HRA := Lib.hid (HRA.out.after hb)
  replace HRB := Lib.hid (HRB.out.after hb)
  replace HRC := Lib.hid (HRC.out.after hb)
  replace HL := Lib.hid (HL.out.after hb)
  replace HB := Lib.hid (HB.out.trans (hb.mono HB.out.size))
  have hal := heap_alloc_new w25 (.cells #[.int .i64 1, .int .i64 3] 59)
  have hb2 := (Below.refl w25.heap.size w25).alloc (Nat.le_refl _) (.cells #[.int .i64 1, .int .i64 3] 59)
  replace HM := Lib.hid (HM.out.after hb2)
  replace HRA := Lib.hid (HRA.out.after hb2)
  replace HRB := Lib.hid (HRB.out.after hb2)
  replace HRC := Lib.hid (HRC.out.after hb2)
  replace HL := Lib.hid (HL.out.after hb2)
  replace HB := Lib.hid (HB.out.trans (hb2.mono HB.out.size))
  have cT := refSamePairs_any [(1, 3)] [(1, 3)] vk _ (w25.alloc (.cells #[.int .i64 1, .int .i64 3] 59)) (hnr.after hb2) (PL.of15 _ w25.heap.size 1 3 hal) true (by decide)
  clear hb CC cR hal hb2 hnr
  clear m0 m1 xA0 xA1 xA2 xA3 xA4 xB0 xB1 xB2 xB3 xB4 xC0 xC1 xC2 xC3 xC4
  have CC := Lib.hid (cT)
  go_wp2_with fail
  refine CC.out.mono ?_
  rintro e w26 ⟨rfl, hb⟩
  replace HM := Lib.hid (HM.out.after hb)
  replace HRA := Lib.hid (HRA.out.after hb)
  replace HRB := Lib.hid (HRB.out.after hb)
  replace HRC := Lib.hid (HRC.out.after hb)
  replace HL := Lib.hid (HL.out.after hb)
  replace HB := Lib.hid (HB.out.trans (hb.mono HB.out.size))
  clear hb CC cT
  go_wp2
  first | exact ⟨rfl, HB.out⟩ | (go_ret; exact ⟨rfl, HB.out⟩)
end

end Go.Proofs.YtfjfpefpdlecbaaGreatDoor
