/- Merged: LB16, LP16, RC16. -/
import Derived.Test.YtceneblmllpdnaaDoorQ20
import Derived.Test.YtceneblmllpdnaaDoorQ33
import Derived.Deep.RegionLaw
import Derived.RegionTactic
import Derived.BigRegion
import Derived.Test.YtceneblmllpdnaaDoorQ23
namespace Go.Proofs.YtceneblmllpdnaaDoor

section
open Go.RowKit Go.PlainAid
def littleB (f : Fld) : Bool := decide (f.subs.length ≤ 20) && (decide (f.tag.length ≤ 300) && (decide (f.ind.length ≤ 300) && f.subs.all fun s => decide (s.2.length ≤ 300)))
def small16B (r : Rec) : Bool := decide (r.fields.length ≤ 20) && (decide (r.lang.length ≤ 300) && r.fields.all littleB)
theorem littleB_ok {f : Fld} (h : littleB f = true) : f.subs.length ≤ 20 ∧ ∀ s ∈ f.subs, s.2.length ≤ 300 := by
  unfold littleB at h
  simp only [Bool.and_eq_true, decide_eq_true_eq, List.all_eq_true] at h
  exact ⟨h.1, h.2.2.2⟩
theorem small16_bnd {r : Rec} (h : small16B r = true) : BndR r ∧ r.fields.length ≤ 20 := by
  unfold small16B at h
  simp only [Bool.and_eq_true, decide_eq_true_eq, List.all_eq_true] at h
  exact ⟨⟨by omega, by omega, fun f hf => by have := (littleB_ok (h.2.2 f hf)).1; omega, fun f hf s hs => by have := (littleB_ok (h.2.2 f hf)).2 s hs; omega⟩, h.1⟩

set_option maxHeartbeats 8000000 in
theorem lLittle_any (f : Fld) (u : Value) (w : World) (hu : QL u f.subs w) (b : Bool) (hb : littleB f = b) :
    Calls Tryd.prog 17 #[FV f u] w fun e w' => e = .returned (.bool b) ∧ Below w.heap.size w w' := by
  obtain ⟨a, cap, rfl, hcap, hmax, _, hcell⟩ := hu
  unfold maxLen at hmax
  unfold FV
  unfold littleB at hb
  have HT := Lib.hid (all_true sub0 (fun s : Sub => decide (s.2.length ≤ 300)) f.subs)
  have HF := Lib.hid (all_false sub0 (fun s : Sub => decide (s.2.length ≤ 300)) f.subs)
  generalize (f.subs.all fun s => decide (s.2.length ≤ 300)) = al at *
  obtain ⟨n, hn⟩ : ∃ n, f.subs.length = n := ⟨_, rfl⟩
  have HCell := Lib.hid hcell
  rw [hn] at hcap hb ⊢
  have HN := Lib.hid hn
  obtain ⟨W0, hW0⟩ : ∃ W0, w.alloc (.cells #[.string (S f.tag), .string (S f.ind), .slice a n cap, .int .i64 f.auth] 45) = W0 := ⟨_, rfl⟩
  have b0 : Below w.heap.size w W0 := by rw [← hW0]; exact (Below.refl w.heap.size w).alloc (Nat.le_refl _) _
  have k2 : W0.cell? ⟨w.heap.size, 2, none⟩ = some (.slice a n cap) := by rw [← hW0]; simp
  have k0 : W0.cell? ⟨w.heap.size, 0, none⟩ = some (.string (S f.tag)) := by rw [← hW0]; simp
  have k1 : W0.cell? ⟨w.heap.size, 1, none⟩ = some (.string (S f.ind)) := by rw [← hW0]; simp
  have z0 := S_size f.tag
  have z1 := S_size f.ind
  have HW0 := Lib.hid hW0
  clear hcell hn hW0
  by_cases h1 : 20 < n
  · rw [decide_eq_false (show ¬ n ≤ 20 by omega), Bool.false_and] at hb
    subst hb
    have d1 : decide ((20 : Int) < (n : Int)) = true := decide_eq_true (by omega)
    go_enter Tryd.func17, Tryd.ntmps17
    go_wp2
    go_ret
    rw [HW0.out]
    exact ⟨rfl, b0⟩
  rw [decide_eq_true (show n ≤ 20 by omega), Bool.true_and] at hb
  have d1 : decide ((20 : Int) < (n : Int)) = false := decide_eq_false (by omega)
  have hn20 : n ≤ 20 := by omega
  clear h1
  by_cases h2 : 300 < f.tag.length
  · rw [decide_eq_false (show ¬ f.tag.length ≤ 300 by omega), Bool.false_and] at hb
    subst hb
    have d2 : decide ((300 : Int) < ((f.tag.length : Nat) : Int)) = true := decide_eq_true (by omega)
    generalize f.tag.length = tn at *
    generalize S f.tag = ts at *
    go_enter Tryd.func17, Tryd.ntmps17
    go_wp2
    go_ret
    rw [HW0.out]
    exact ⟨rfl, b0⟩
  rw [decide_eq_true (show f.tag.length ≤ 300 by omega), Bool.true_and] at hb
  have d2 : decide ((300 : Int) < ((f.tag.length : Nat) : Int)) = false := decide_eq_false (by omega)
  clear h2
  by_cases h3 : 300 < f.ind.length
  · rw [decide_eq_false (show ¬ f.ind.length ≤ 300 by omega), Bool.false_and] at hb
    subst hb
    have d3 : decide ((300 : Int) < ((f.ind.length : Nat) : Int)) = true := decide_eq_true (by omega)
    generalize f.tag.length = tn at *
    generalize S f.tag = ts at *
    generalize f.ind.length = im at *
    generalize S f.ind = is at *
    go_enter Tryd.func17, Tryd.ntmps17
    go_wp2
    go_ret
    rw [HW0.out]
    exact ⟨rfl, b0⟩
  rw [decide_eq_true (show f.ind.length ≤ 300 by omega), Bool.true_and] at hb
  have d3 : decide ((300 : Int) < ((f.ind.length : Nat) : Int)) = false := decide_eq_false (by omega)
  clear h3
  subst hb
  generalize f.tag.length = tn at *
  generalize S f.tag = ts at *
  generalize f.ind.length = im at *
  generalize S f.ind = is at *
  go_enter Tryd.func17, Tryd.ntmps17
  go_wp2
  rw [HW0.out]
  go_loopw [3] (fun i wr => ∃ k : Nat, k ≤ n ∧ i = .int .i64 (k : Int) ∧ RowKit.Hid (∀ j, j < k → (f.subs.getD j sub0).2.length ≤ 300) ∧ wr = W0) (fun i _ => n - (intOf i).toNat)
  case atStart => exact ⟨0, Nat.zero_le _, rfl, (fun j hj => by omega), rfl⟩
  case round =>
    obtain ⟨k, hk, rfl, HJ, hwr⟩ := hrel
    rw [hwr]
    clear hwr
    by_cases hkn : k < n
    · obtain ⟨g, o, rfl, hg, _, c2⟩ := HCell.out k (by rw [HN.out]; exact hkn)
      have c2 : W0.cell? ⟨g, o + k * 2 + 1, none⟩ = some (.string (S (f.subs.getD k sub0).2)) := (b0.cell (p := ⟨g, o + k * 2 + 1, none⟩) hg).trans c2
      have i1 : (0 : Int) ≤ (k : Int) := by omega
      have i2 : (k : Int) < (n : Int) := by omega
      have hz := S_size (f.subs.getD k sub0).2
      by_cases hv : 300 < (f.subs.getD k sub0).2.length
      · obtain rfl : al = false := HF.out k (by rw [HN.out]; exact hkn) (decide_eq_false (by omega))
        have d4 : decide ((300 : Int) < (((f.subs.getD k sub0).2.length : Nat) : Int)) = true := decide_eq_true (by omega)
        clear HJ hv
        generalize (f.subs.getD k sub0).2.length = vl at *
        generalize S (f.subs.getD k sub0).2 = sv at *
        go_wp2
        go_ret
        exact ⟨rfl, b0⟩
      · have d4 : decide ((300 : Int) < (((f.subs.getD k sub0).2.length : Nat) : Int)) = false := decide_eq_false (by omega)
        have HJ2 : RowKit.Hid (∀ j, j < k + 1 → (f.subs.getD j sub0).2.length ≤ 300) := by
          intro j hj
          rcases Nat.lt_or_ge j k with h | h
          · exact HJ.out j h
          · rw [show j = k by omega]; omega
        clear HJ hv
        generalize (f.subs.getD k sub0).2.length = vl at *
        generalize S (f.subs.getD k sub0).2 = sv at *
        go_wp2
        go_roundw
        case rel => exact ⟨k + 1, by omega, by go_num, HJ2, trivial⟩
        case measure => simp [intOf]; omega
    · obtain rfl : k = n := by omega
      obtain rfl : al = true := HT.out (fun j hj => decide_eq_true (HJ.out j (by rw [HN.out] at hj; exact hj)))
      go_wp2
      go_ret
      exact ⟨rfl, b0⟩

set_option maxHeartbeats 8000000 in
theorem lSmall_any (r : Rec) (u : Value) (w : World) (hu : FL u r.fields w) (b : Bool) (hb : small16B r = b) :
    Calls Tryd.prog 25 #[RV r u] w fun e w' => e = .returned (.bool b) ∧ Below w.heap.size w w' := by
  have HU := Lib.hid hu
  obtain ⟨a, cap, rfl, hcap, hmax⟩ := hu.length
  unfold maxLen at hmax
  unfold RV
  unfold small16B at hb
  have HT := Lib.hid (all_true fd0 littleB r.fields)
  have HF := Lib.hid (all_false fd0 littleB r.fields)
  generalize r.fields.all littleB = al at *
  have cS := Lib.hid (fun k x W hx bb hbb => lLittle_any (r.fields.getD k fd0) x W hx bb hbb)
  unfold FV at cS
  obtain ⟨n, hn⟩ : ∃ n, r.fields.length = n := ⟨_, rfl⟩
  rw [hn] at hcap hb HU ⊢
  have HN := Lib.hid hn
  obtain ⟨W0, hW0⟩ : ∃ W0, w.alloc (.cells #[.int .i64 r.id, .int .i64 r.ver, .int .i64 r.kind, .string (S r.lang), .slice a n cap] 31) = W0 := ⟨_, rfl⟩
  have b0 : Below w.heap.size w W0 := by rw [← hW0]; exact (Below.refl w.heap.size w).alloc (Nat.le_refl _) _
  have hlt : w.heap.size < W0.heap.size := by rw [← hW0]; simp
  have k4 : W0.cell? ⟨w.heap.size, 4, none⟩ = some (.slice a n cap) := by rw [← hW0]; simp
  have k3 : W0.cell? ⟨w.heap.size, 3, none⟩ = some (.string (S r.lang)) := by rw [← hW0]; simp
  have z3 := S_size r.lang
  have HW0 := Lib.hid hW0
  have HU0 := Lib.hid (HU.out.after b0)
  clear hn hW0 hu HU
  by_cases h1 : 20 < n
  · rw [decide_eq_false (show ¬ n ≤ 20 by omega), Bool.false_and] at hb
    subst hb
    have d1 : decide ((20 : Int) < (n : Int)) = true := decide_eq_true (by omega)
    go_enter Tryd.func25, Tryd.ntmps25
    go_wp2
    go_ret
    rw [HW0.out]
    exact ⟨rfl, b0⟩
  rw [decide_eq_true (show n ≤ 20 by omega), Bool.true_and] at hb
  have d1 : decide ((20 : Int) < (n : Int)) = false := decide_eq_false (by omega)
  have hn20 : n ≤ 20 := by omega
  clear h1
  by_cases h2 : 300 < r.lang.length
  · rw [decide_eq_false (show ¬ r.lang.length ≤ 300 by omega), Bool.false_and] at hb
    subst hb
    have d2 : decide ((300 : Int) < ((r.lang.length : Nat) : Int)) = true := decide_eq_true (by omega)
    generalize r.lang.length = tn at *
    generalize S r.lang = ts at *
    go_enter Tryd.func25, Tryd.ntmps25
    go_wp2
    go_ret
    rw [HW0.out]
    exact ⟨rfl, b0⟩
  rw [decide_eq_true (show r.lang.length ≤ 300 by omega), Bool.true_and] at hb
  have d2 : decide ((300 : Int) < ((r.lang.length : Nat) : Int)) = false := decide_eq_false (by omega)
  clear h2
  subst hb
  generalize r.lang.length = tn at *
  generalize S r.lang = ts at *
  go_enter Tryd.func25, Tryd.ntmps25
  go_wp2
  rw [HW0.out]
  go_loopw [3] (fun i wr => ∃ k : Nat, k ≤ n ∧ i = .int .i64 (k : Int) ∧ RowKit.Hid (∀ j, j < k → littleB (r.fields.getD j fd0) = true) ∧ Below W0.heap.size W0 wr) (fun i _ => n - (intOf i).toNat)
  case atStart => exact ⟨0, Nat.zero_le _, rfl, (fun j hj => by omega), Below.refl _ _⟩
  case round =>
    obtain ⟨k, hk, rfl, HJ, hbw⟩ := hrel
    have j4 := (hbw.cell (p := ⟨w.heap.size, 4, none⟩) hlt).trans k4
    by_cases hkn : k < n
    · obtain ⟨g, o, cap', x, he, hg, c0, c1, c2, c3, hq⟩ := (HU0.out.after hbw).at k (by rw [HN.out]; exact hkn)
      obtain ⟨ha, -, hcp⟩ := Value.slice.inj he
      subst ha hcp
      clear he
      have i1 : (0 : Int) ≤ (k : Int) := by omega
      have i2 : (k : Int) < (n : Int) := by omega
      cases hsf : littleB (r.fields.getD k fd0)
      · obtain rfl : al = false := HF.out k (by rw [HN.out]; exact hkn) hsf
        have c := Lib.hid (cS.out k x wr hq false hsf)
        have Fin := Lib.hid (b0.trans (hbw.mono b0.size))
        clear HJ hq hsf
        generalize S (r.fields.getD k fd0).tag = t0 at *
        generalize S (r.fields.getD k fd0).ind = t1 at *
        generalize (r.fields.getD k fd0).auth = t3 at *
        go_wp2_with fail
        refine c.out.mono ?_
        rintro e w5 ⟨rfl, d⟩
        have Fin2 := Lib.hid (Fin.out.trans (d.mono Fin.out.size))
        go_wp2
        go_ret
        exact ⟨rfl, Fin2.out⟩
      · have c := Lib.hid (cS.out k x wr hq true hsf)
        have HJ2 : RowKit.Hid (∀ j, j < k + 1 → littleB (r.fields.getD j fd0) = true) := by
          intro j hj
          rcases Nat.lt_or_ge j k with h | h
          · exact HJ.out j h
          · rw [show j = k by omega]; exact hsf
        clear HJ hq hsf
        generalize S (r.fields.getD k fd0).tag = t0 at *
        generalize S (r.fields.getD k fd0).ind = t1 at *
        generalize (r.fields.getD k fd0).auth = t3 at *
        go_wp2_with fail
        refine c.out.mono ?_
        rintro e w5 ⟨rfl, d⟩
        have hb5 := Lib.hid (hbw.trans (d.mono hbw.size))
        go_wp2
        go_roundw
        case rel => exact ⟨k + 1, by omega, by go_num, HJ2, hb5.out⟩
        case measure => simp [intOf]; omega
    · obtain rfl : k = n := by omega
      obtain rfl : al = true := HT.out (fun j hj => HJ.out j (by rw [HN.out] at hj; exact hj))
      have Fin := Lib.hid (b0.trans (hbw.mono b0.size))
      go_wp2
      go_ret
      exact ⟨rfl, Fin.out⟩


def fairB (a b : Rec) (l : List Kp) : Bool := small16B a && (small16B b && decide (l.length ≤ 40))
theorem fairB_ok {a b : Rec} {l : List Kp} (h : fairB a b l = true) : (BndR a ∧ a.fields.length ≤ 20) ∧ (BndR b ∧ b.fields.length ≤ 20) := by
  unfold fairB at h
  simp only [Bool.and_eq_true, decide_eq_true_eq] at h
  exact ⟨small16_bnd h.1, small16_bnd h.2.1⟩


theorem fairV (a : Rec) (u : Value) (b : Rec) (x k : Value) : PairV a u b x k = .agg #[.int .i64 a.id, .int .i64 a.ver, .int .i64 a.kind, .string (S a.lang), u, .int .i64 b.id, .int .i64 b.ver, .int .i64 b.kind, .string (S b.lang), x, k] := rfl
set_option maxHeartbeats 8000000 in
theorem lfair_any (a b : Rec) (l : List Kp) (u x k : Value) (w : World) (hu : FL u a.fields w) (hx : FL x b.fields w) (hk : KpL k l w) (r : Bool) (hr : fairB a b l = r) :
    Calls Tryd.prog 12 #[PairV a u b x k] w fun e w' => e = .returned (.bool r) ∧ Below w.heap.size w w' := by
  rw [fairV]
  have cA := Lib.hid (fun (W : World) (h : Below w.heap.size w W) => lSmall_any a u W (hu.after h) _ rfl)
  have cB := Lib.hid (fun (W : World) (h : Below w.heap.size w W) => lSmall_any b x W (hx.after h) _ rfl)
  obtain ⟨ua, uc, rfl, hu1, hu2⟩ := hu.length
  obtain ⟨xa, xc, rfl, hx1, hx2⟩ := hx.length
  obtain ⟨ka, kc, -, -, rfl, hk1, hk2, -, -⟩ := hk.opened
  unfold RV at cA cB
  unfold fairB at hr
  obtain ⟨ln, hln⟩ : ∃ y, l.length = y := ⟨_, rfl⟩
  rw [hln] at hr hk1 ⊢
  obtain ⟨W0, hW0⟩ : ∃ W0, w.alloc (.cells #[.int .i64 a.id, .int .i64 a.ver, .int .i64 a.kind, .string (S a.lang), .slice ua a.fields.length uc, .int .i64 b.id, .int .i64 b.ver, .int .i64 b.kind, .string (S b.lang), .slice xa b.fields.length xc, .slice ka ln kc] 33) = W0 := ⟨_, rfl⟩
  have b0 : Below w.heap.size w W0 := by rw [← hW0]; exact (Below.refl w.heap.size w).alloc (Nat.le_refl _) _
  have hX : W0.heap[w.heap.size]? = some (.cells #[.int .i64 a.id, .int .i64 a.ver, .int .i64 a.kind, .string (S a.lang), .slice ua a.fields.length uc, .int .i64 b.id, .int .i64 b.ver, .int .i64 b.kind, .string (S b.lang), .slice xa b.fields.length xc, .slice ka ln kc] 33 (0, 0)) := by rw [← hW0]; exact heap_alloc_new w _
  obtain ⟨n1, hn1⟩ : ∃ y, a.fields.length = y := ⟨_, rfl⟩
  obtain ⟨n2, hn2⟩ : ∃ y, b.fields.length = y := ⟨_, rfl⟩
  rw [hn1] at cA hW0 hX ⊢
  rw [hn2] at cB hW0 hX ⊢
  obtain ⟨sa, hsa⟩ : ∃ y, small16B a = y := ⟨_, rfl⟩
  obtain ⟨sb, hsb⟩ : ∃ y, small16B b = y := ⟨_, rfl⟩
  rw [hsa] at cA hr
  rw [hsb] at cB hr
  have HW0 := Lib.hid hW0
  have HB0 := Lib.hid b0
  have HX := Lib.hid hX
  clear hu hx hk hu1 hu2 hx1 hx2 hk1 hk2 hln hn1 hn2 hsa hsb hW0 b0 hX
  generalize S a.lang = la at *
  generalize S b.lang = lb at *
  generalize a.id = a0 at *
  generalize a.ver = a1 at *
  generalize a.kind = a2 at *
  generalize b.id = b0 at *
  generalize b.ver = b1 at *
  generalize b.kind = b2 at *
  have cells : ∀ W : World, W.heap[w.heap.size]? = some (.cells #[.int .i64 a0, .int .i64 a1, .int .i64 a2, .string la, .slice ua n1 uc, .int .i64 b0, .int .i64 b1, .int .i64 b2, .string lb, .slice xa n2 xc, .slice ka ln kc] 33 (0, 0)) →
      (W.cell? ⟨w.heap.size, 0, none⟩ = some (.int .i64 a0) ∧ W.cell? ⟨w.heap.size, 1, none⟩ = some (.int .i64 a1) ∧ W.cell? ⟨w.heap.size, 2, none⟩ = some (.int .i64 a2) ∧ W.cell? ⟨w.heap.size, 3, none⟩ = some (.string la) ∧ W.cell? ⟨w.heap.size, 4, none⟩ = some (.slice ua n1 uc)) ∧
      (W.cell? ⟨w.heap.size, 5, none⟩ = some (.int .i64 b0) ∧ W.cell? ⟨w.heap.size, 6, none⟩ = some (.int .i64 b1) ∧ W.cell? ⟨w.heap.size, 7, none⟩ = some (.int .i64 b2) ∧ W.cell? ⟨w.heap.size, 8, none⟩ = some (.string lb) ∧ W.cell? ⟨w.heap.size, 9, none⟩ = some (.slice xa n2 xc)) ∧ W.cell? ⟨w.heap.size, 10, none⟩ = some (.slice ka ln kc) := fun W h => by
    refine ⟨⟨?_, ?_, ?_, ?_, ?_⟩, ⟨?_, ?_, ?_, ?_, ?_⟩, ?_⟩ <;> (rw [Lib.cell_of_heap h]; rfl)
  have HC := Lib.hid cells
  clear cells
  obtain ⟨⟨x0, x1, x2, x3, x4⟩, -, -⟩ := HC.out W0 HX.out
  go_enter Tryd.func12, Tryd.ntmps12
  go_upto_region 1 with fail
  (try rw [HW0.out])
  clear HW0
  go_wp2_with fail
  refine (cA.out W0 HB0.out).mono ?_
  rintro e w1 ⟨rfl, hb1⟩
  have HX1 := Lib.hid ((hb1.block w.heap.size (Array.getElem?_eq_some_iff.1 HX.out).1).trans HX.out)
  have HB1 := Lib.hid (HB0.out.trans (hb1.mono HB0.out.size))
  clear hb1 x0 x1 x2 x3 x4 cA
  obtain ⟨-, ⟨x0, x1, x2, x3, x4⟩, x5⟩ := HC.out w1 HX1.out
  cases sa with
  | false =>
    rw [Bool.false_and] at hr
    subst hr
    go_wp2
    go_ret
    exact ⟨rfl, HB1.out⟩
  | true =>
    rw [Bool.true_and] at hr
    go_wp2_with fail
    refine (cB.out w1 HB1.out).mono ?_
    rintro e w2 ⟨rfl, hb2⟩
    have HX2 := Lib.hid ((hb2.block w.heap.size (Array.getElem?_eq_some_iff.1 HX1.out).1).trans HX1.out)
    have HB2 := Lib.hid (HB1.out.trans (hb2.mono HB1.out.size))
    clear hb2 x0 x1 x2 x3 x4 x5 cB
    obtain ⟨-, -, x5⟩ := HC.out w2 HX2.out
    cases sb with
    | false =>
      rw [Bool.false_and] at hr
      subst hr
      go_wp2
      go_ret
      exact ⟨rfl, HB2.out⟩
    | true =>
      rw [Bool.true_and] at hr
      have hr' : decide ((ln : Int) ≤ 40) = r := by rw [← hr]; exact decide_eq_decide.2 (by omega)
      clear hr
      go_wp2
      go_ret
      refine ⟨?_, HB2.out⟩
      rw [← hr']
      rfl
end

section
open Go.RowKit Go.PlainAid
theorem pair_cells {w : World} {b : Nat} {c0 c1 c2 c3 c4 c5 c6 c7 c8 c9 c10 : Value} (h : w.heap[b]? = some (.cells #[c0, c1, c2, c3, c4, c5, c6, c7, c8, c9, c10] 33 (0, 0))) :
    (w.cell? ⟨b, 0, none⟩ = some c0 ∧ w.cell? ⟨b, 1, none⟩ = some c1 ∧ w.cell? ⟨b, 2, none⟩ = some c2 ∧ w.cell? ⟨b, 3, none⟩ = some c3 ∧ w.cell? ⟨b, 4, none⟩ = some c4) ∧
    (w.cell? ⟨b, 5, none⟩ = some c5 ∧ w.cell? ⟨b, 6, none⟩ = some c6 ∧ w.cell? ⟨b, 7, none⟩ = some c7 ∧ w.cell? ⟨b, 8, none⟩ = some c8 ∧ w.cell? ⟨b, 9, none⟩ = some c9) ∧ w.cell? ⟨b, 10, none⟩ = some c10 := by
  refine ⟨⟨?_, ?_, ?_, ?_, ?_⟩, ⟨?_, ?_, ?_, ?_, ?_⟩, ?_⟩ <;> (rw [Lib.cell_of_heap h]; rfl)
/-- Two new boxes. -/
def box2W (w : World) : World := (w.alloc (.cells #[.int .i64 0, .int .i64 0, .int .i64 0, .string ⟨#[]⟩, .slice none 0 0] 31)).alloc (.cells #[.int .i64 0, .int .i64 0, .int .i64 0, .int .i64 0, .string ⟨#[]⟩, .slice none 0 0, .slice none 0 0] 36)
/-- Two new boxes, filled. -/
def box2F (w : World) (ca cb : Array Value) : World := ((box2W w).setRow w.heap.size ca).setRow (w.heap.size + 1) cb
theorem box2_one (w : World) : (box2W w).heap[w.heap.size]? = some (.cells #[.int .i64 0, .int .i64 0, .int .i64 0, .string ⟨#[]⟩, .slice none 0 0] 31 (0, 0)) := (Below.heap_alloc _ _ _ (by simp)).trans (heap_alloc_new w _)
theorem box2_two (w : World) (ca : Array Value) : ((box2W w).setRow w.heap.size ca).heap[w.heap.size + 1]? = some (.cells #[.int .i64 0, .int .i64 0, .int .i64 0, .int .i64 0, .string ⟨#[]⟩, .slice none 0 0, .slice none 0 0] 36 (0, 0)) := by
  refine (setRow_other _ _ _ _ (by omega)).trans ?_
  have := heap_alloc_new (w.alloc (.cells #[.int .i64 0, .int .i64 0, .int .i64 0, .string ⟨#[]⟩, .slice none 0 0] 31)) (.cells #[.int .i64 0, .int .i64 0, .int .i64 0, .int .i64 0, .string ⟨#[]⟩, .slice none 0 0, .slice none 0 0] 36)
  simpa [box2W] using this
theorem box2_below (w : World) (ca cb : Array Value) : Below w.heap.size w (box2F w ca cb) :=
  below_setRow (below_setRow (((Below.refl _ _).alloc (Nat.le_refl _) _).alloc (by simp) _) (Nat.le_refl _) _) (by omega) _
theorem box2_a (w : World) (ca cb : Array Value) : (box2F w ca cb).heap[w.heap.size]? = some (.cells ca 31 (0, 0)) :=
  (setRow_other _ _ _ _ (by omega)).trans (setRow_heap _ _ _ _ _ _ (box2_one w))
theorem box2_b (w : World) (ca cb : Array Value) : (box2F w ca cb).heap[w.heap.size + 1]? = some (.cells cb 36 (0, 0)) := setRow_heap _ _ _ _ _ _ (box2_two w ca)
theorem box2_size (w : World) (ca cb : Array Value) : w.heap.size + 2 ≤ (box2F w ca cb).heap.size := by
  unfold box2F
  rw [size_setRow, size_setRow]
  simp [box2W]
end

section
open Go.RowKit Go.PlainAid
theorem FL.one16 (w : World) (f : Fld) (x : Value) (hq : QL x f.subs w) (W : World) : NW w (some ⟨W.heap.size, 0, none⟩) [f] (W.alloc (.cells #[.string (S f.tag), .string (S f.ind), x, .int .i64 f.auth] 45)) := by
  refine ⟨(fun h => by cases h), fun ad had => ⟨[x], rfl, fun i hi => ?_, fun j u hj => ?_⟩⟩
  · obtain rfl : i = 0 := by simpa using hi
    exact hq
  · obtain rfl := Option.some.inj had
    exact cells_four W _ _ _ _ _ j u hj
theorem take_snoc16 (L : List Fld) (k : Nat) (hk : k < L.length) : L.take (k + 1) = L.take k ++ [L.getD k fd0] := by
  rw [List.take_succ_eq_append_getElem hk, List.getD_eq_getElem?_getD, List.getElem?_eq_getElem hk]
  rfl
theorem FR.kept16 {W0 : World} {B : Nat} {v : Value} {L : List Fld} {w W : World} (h : FR W0 B v L w) (hk : ∀ i, B ≤ i → i < w.heap.size → W.heap[i]? = w.heap[i]?) : FR W0 B v L W := by
  obtain ⟨us, h1, h2, h3⟩ := h
  exact ⟨us, h1, own_kept h2 (fun b cs hB hb => hk b hB (Array.getElem?_eq_some_iff.1 hb).1), h3⟩
theorem FR.form16 {W0 : World} {B : Nat} {v : Value} {L : List Fld} {w : World} (h : FR W0 B v L w) : ∃ a c, v = .slice a L.length c := by
  obtain ⟨us, _, h2, _⟩ := h
  exact own_form h2

set_option maxHeartbeats 16000000 in
set_option maxRecDepth 20000 in
theorem refCopy16_any (r : Rec) (u : Value) (V w : World) (hVw : Below V.heap.size V w) (hu : FL u r.fields V) (hs : r.fields.length ≤ 10000) :
    Calls Tryd.prog 31 #[RV r u] w fun e w' => ∃ cv, e = .returned (RV r cv) ∧ FR V w.heap.size cv r.fields w' ∧ Below w.heap.size w w' := by
  obtain ⟨Q, hQ⟩ : ∃ Q, (fun (e : Ending) (w' : World) => ∃ cv, e = .returned (RV r cv) ∧ FR V w.heap.size cv r.fields w' ∧ Below w.heap.size w w') = Q := ⟨_, rfl⟩
  rw [hQ]
  have HQ : RowKit.Hid (∀ cv W, FR V w.heap.size cv r.fields W → Below w.heap.size w W → Q (.returned (.agg #[.int .i64 r.id, .int .i64 r.ver, .int .i64 r.kind, .string (S r.lang), cv])) W) := by
    rw [← hQ]
    exact fun cv W h1 h2 => ⟨cv, rfl, h1, h2⟩
  obtain ⟨a, cap, us, rfl, hcap, hmax, hna, hul, hq, hx⟩ := hu.vals
  unfold maxLen at hmax
  have HV := Lib.hid hq
  have HX := Lib.hid hx
  unfold RV
  obtain ⟨W0, hW0⟩ : ∃ W0, (w.alloc (.cells #[.int .i64 r.id, .int .i64 r.ver, .int .i64 r.kind, .string (S r.lang), .slice a r.fields.length cap] 31)).alloc (.cells #[.int .i64 0, .int .i64 0, .int .i64 0, .string ⟨#[]⟩, .slice none 0 0] 31) = W0 := ⟨_, rfl⟩
  have b0 : Below w.heap.size w W0 := by rw [← hW0]; exact ((Below.refl w.heap.size w).alloc (Nat.le_refl _) _).alloc (by simp) _
  have hz0 : W0.heap.size = w.heap.size + 2 := by rw [← hW0]; simp
  have hX0 : W0.heap[w.heap.size]? = some (.cells #[.int .i64 r.id, .int .i64 r.ver, .int .i64 r.kind, .string (S r.lang), .slice a r.fields.length cap] 31 (0, 0)) := by
    rw [← hW0]
    exact (Below.heap_alloc _ _ _ (by simp)).trans (heap_alloc_new w _)
  have hX1 : W0.heap[w.heap.size + 1]? = some (.cells #[.int .i64 0, .int .i64 0, .int .i64 0, .string ⟨#[]⟩, .slice none 0 0] 31 (0, 0)) := by
    rw [← hW0]
    have := heap_alloc_new (w.alloc (.cells #[.int .i64 r.id, .int .i64 r.ver, .int .i64 r.kind, .string (S r.lang), .slice a r.fields.length cap] 31)) (.cells #[.int .i64 0, .int .i64 0, .int .i64 0, .string ⟨#[]⟩, .slice none 0 0] 31)
    simpa using this
  obtain ⟨n, hn⟩ : ∃ n, r.fields.length = n := ⟨_, rfl⟩
  rw [hn] at hcap hW0 hX0 hs ⊢
  have HN := Lib.hid hn
  have HW0 := Lib.hid hW0
  have HB0 := Lib.hid b0
  have HS0 := Lib.hid hz0
  have HX0 := Lib.hid (fun (W : World) (h : Below (w.heap.size + 2) W0 W) => (h.block w.heap.size (by omega)).trans hX0)
  have HX1 := Lib.hid (fun (W : World) (h : Below (w.heap.size + 2) W0 W) => (h.block (w.heap.size + 1) (by omega)).trans hX1)
  have HR0 := Lib.hid (FR.nil V W0 (w.heap.size + 2))
  obtain ⟨⟨x0, x1, x2, x3, x4⟩, -⟩ := rcells hX0
  have HVw := Lib.hid hVw
  clear hQ hu hq hx hn hW0 b0 hVw hz0 hX0 hX1
  obtain ⟨lr, hlr⟩ : ∃ x, S r.lang = x := ⟨_, rfl⟩
  rw [hlr] at HQ HW0 HX0 x3 ⊢
  generalize r.id = rid at *
  generalize r.ver = rver at *
  generalize r.kind = rkind at *
  clear hlr
  go_enter Tryd.func31, Tryd.ntmps31
  go_upto_region 2 with fail
  (try rw [HW0.out])
  clear HW0
  go_wp2
  clear x0 x1 x2 x3 x4
  have HBr := Lib.hid (Below.refl (w.heap.size + 2) W0)
  go_loopw [3, 4] (fun s3 s4 wr => ∃ k : Nat, k ≤ n ∧ s4 = .int .i64 (k : Int) ∧ RowKit.Hid (FR V (w.heap.size + 2) s3 (r.fields.take k) wr) ∧ RowKit.Hid (Below (w.heap.size + 2) W0 wr)) (fun _ s4 _ => n - (intOf s4).toNat)
  case atStart => exact ⟨0, Nat.zero_le _, rfl, HR0.out, HBr.out⟩
  case round =>
    obtain ⟨k, hk, rfl, HF, HB⟩ := hrel
    have i1 : (0 : Int) ≤ (k : Int) := by omega
    obtain ⟨⟨x0, x1, x2, x3, x4⟩, q0, q1, q2, q3, q4⟩ := rcells (HX0.out wr HB.out)
    by_cases hkn : k < n
    · have i2 : (k : Int) < (n : Int) := by omega
      obtain ⟨g, o, rfl, hg, c0, c1, c2, c3⟩ := HX.out k (by rw [HN.out]; exact hkn)
      have hbw := HVw.out.trans ((HB0.out.trans (HB.out.mono (by omega))).mono HVw.out.size)
      have c0 := (hbw.cell (p := ⟨g, o + k * 4, none⟩) hg).trans c0
      have c1 := (hbw.cell (p := ⟨g, o + k * 4 + 1, none⟩) hg).trans c1
      have c2 := (hbw.cell (p := ⟨g, o + k * 4 + 2, none⟩) hg).trans c2
      have c3 := (hbw.cell (p := ⟨g, o + k * 4 + 3, none⟩) hg).trans c3
      have HQk := Lib.hid (HV.out k (by rw [HN.out]; exact hkn))
      have HT := Lib.hid (take_snoc16 r.fields k (by rw [HN.out]; exact hkn))
      have HL := Lib.hid (show (r.fields.take k).length + 1 ≤ 100000 from by rw [List.length_take]; omega)
      obtain ⟨M, hM⟩ : ∃ M, r.fields.take k = M := ⟨_, rfl⟩
      rw [hM] at HF HT HL
      obtain ⟨f, hf⟩ : ∃ f, r.fields.getD k fd0 = f := ⟨_, rfl⟩
      rw [hf] at HQk HT c0 c1 c3
      obtain ⟨x, hx⟩ : ∃ x, us.getD k .nilIface = x := ⟨_, rfl⟩
      rw [hx] at HQk c2
      have HNW := Lib.hid (FL.one16 V f x HQk.out wr)
      have hxo := HQk.out.one
      have HFa := Lib.hid (HF.out.after ((Below.refl wr.heap.size wr).alloc (Nat.le_refl _) (.cells #[.string (S f.tag), .string (S f.ind), x, .int .i64 f.auth] 45)))
      have HBa := Lib.hid (HB.out.alloc (show w.heap.size + 2 ≤ wr.heap.size from by have := HB.out.size; have := HS0.out; omega) (.cells #[.string (S f.tag), .string (S f.ind), x, .int .i64 f.auth] 45))
      have HS1 := Lib.hid (show w.heap.size + 2 ≤ (wr.alloc (.cells #[.string (S f.tag), .string (S f.ind), x, .int .i64 f.auth] 45)).heap.size from by have := HB.out.size; have := HS0.out; simp; omega)
      clear HF hM hf hx hbw
      obtain ⟨ft, hft⟩ : ∃ y, S f.tag = y := ⟨_, rfl⟩
      obtain ⟨fi, hfi⟩ : ∃ y, S f.ind = y := ⟨_, rfl⟩
      rw [hft] at c0 HNW HFa HBa HS1
      rw [hfi] at c1 HNW HFa HBa HS1
      clear hft hfi
      obtain ⟨au, hau⟩ : ∃ y, f.auth = y := ⟨_, rfl⟩
      rw [hau] at c3 HNW HFa HBa HS1
      clear hau
      go_wp2_with (at_builtin; go_must (refine append_fr _ rfl _ _ rfl V (w.heap.size + 2) _ M rfl HFa.out _ [f] 1 1 rfl rfl (fun h => by cases h) HNW.out HL.out HS1.out (w.heap.size + 2) W0 (Nat.le_refl _) HBa.out ?_; intro v2 w2 hfr2 hb2 hB2 hn2))
      have HF2 : RowKit.Hid (FR V (w.heap.size + 2) v2 (r.fields.take (k + 1)) w2) := by rw [HT.out]; exact hfr2
      have HB2 := Lib.hid hb2
      go_roundw
      case rel => exact ⟨k + 1, by omega, by go_num, HF2.out, HB2.out⟩
      case measure => simp [intOf]; omega
    · obtain rfl : k = n := by omega
      rw [show r.fields.take k = r.fields from by rw [← HN.out]; exact List.take_length] at HF
      obtain ⟨va, vc, rfl⟩ := HF.out.form16
      obtain ⟨vn, hvn⟩ : ∃ y, r.fields.length = y := ⟨_, rfl⟩
      rw [hvn] at HF ⊢
      have hz1 : (wr.setCell ⟨w.heap.size, 4, none⟩ (.slice va vn vc)).heap[w.heap.size + 1]? = some (.cells #[.int .i64 0, .int .i64 0, .int .i64 0, .string ⟨#[]⟩, .slice none 0 0] 31 (0, 0)) := (heap_setn _ _ _ _ (by simp)).trans (HX1.out wr HB.out)
      have hzs : (wr.setCell ⟨w.heap.size, 4, none⟩ (.slice va vn vc)).heap.size = wr.heap.size := by simp [World.setCell]
      have hfin := setRow_heap (wr.setCell ⟨w.heap.size, 4, none⟩ (.slice va vn vc)) (w.heap.size + 1) _ #[.int .i64 rid, .int .i64 rver, .int .i64 rkind, .string lr, .slice va vn vc] _ _ hz1
      have hFR : FR V w.heap.size (.slice va vn vc) r.fields ((wr.setCell ⟨w.heap.size, 4, none⟩ (.slice va vn vc)).setRow (w.heap.size + 1) #[.int .i64 rid, .int .i64 rver, .int .i64 rkind, .string lr, .slice va vn vc]) := by
        have h1 := HF.out.kept16 (W := (wr.setCell ⟨w.heap.size, 4, none⟩ (.slice va vn vc)).setRow (w.heap.size + 1) #[.int .i64 rid, .int .i64 rver, .int .i64 rkind, .string lr, .slice va vn vc]) (fun i hi _ => (setRow_other _ _ _ _ (by omega)).trans (heap_setn _ _ _ _ (by show i ≠ w.heap.size; omega)))
        obtain ⟨us', g1, g2, g3⟩ := h1
        exact ⟨us', g1, ⟨g2.1, g2.2.imp id (fun ⟨g, c, cur, q1, q2, q3⟩ => ⟨g, c, cur, q1, by omega, q3⟩)⟩, g3⟩
      have hBF : Below w.heap.size w ((wr.setCell ⟨w.heap.size, 4, none⟩ (.slice va vn vc)).setRow (w.heap.size + 1) #[.int .i64 rid, .int .i64 rver, .int .i64 rkind, .string lr, .slice va vn vc]) :=
        below_setRow ((HB0.out.trans (HB.out.mono (by omega))).setCell (p := ⟨w.heap.size, 4, none⟩) (Nat.le_refl _) _) (by omega) _
      have HZ1 := Lib.hid hz1
      have HFin := Lib.hid hfin
      have HG := Lib.hid (HQ.out _ _ hFR hBF)
      clear hz1 hzs hfin hFR hBF HF HB HX
      go_wp2_with (refine wpList_store_row rfl 31 (.tmp 2) (.tmp 22) rfl (w.heap.size + 1) #[.int .i64 rid, .int .i64 rver, .int .i64 rkind, .string lr, .slice va vn vc] rfl rfl 31 _ HZ1.out (by kernel_rfl) rfl (by simp [Value.oneCell']) ?_)
      (try simp only [Exit.inBlock, Exit.then])
      refine bodyPost_ret (results_cell_row rfl _ _ (w.heap.size + 1) _ _ _ _ rfl HFin.out Tryd.underlying31 rfl (by kernel_rfl)) rfl ?_
      exact HG.out
end

end Go.Proofs.YtceneblmllpdnaaDoor
