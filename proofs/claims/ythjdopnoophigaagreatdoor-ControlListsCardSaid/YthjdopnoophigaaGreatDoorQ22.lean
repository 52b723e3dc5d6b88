/- Merged: RD09, UE09, RE09, KA14, Plain07C. -/
import Derived.Test.YthjdopnoophigaaGreatDoorQ06
import Derived.Laws.ResultCell
import Derived.Test.YthjdopnoophigaaGreatDoorQ07
import Derived.Test.YthjdopnoophigaaGreatDoorQ11
import Derived.Test.YthjdopnoophigaaGreatDoorQ19
namespace Go.Proofs.YthjdopnoophigaaGreatDoor

section
open Go.RowKit Go.PlainAid
theorem leB_nil (t : List UInt8) (h : tagB t = true) : leB t [] = false := by
  unfold leB
  match t, h with
  | [], h => cases h
  | x :: r, _ => rfl
theorem errR_eq2 (before : List UInt8) (t : Rul) : errR false before t = if tagB t.tag = false then 6 else if leB t.tag before = true then 7 else if decide (t.codes = []) = true then 3 else if codesB t.codes = false then 3 else if codesB t.once = false then 3 else if codesB t.needs = false then 3 else if withinB t.codes t.once = false then 3 else if withinB t.codes t.needs = false then 3 else if t.auth < 0 ∨ 4 < t.auth then 1 else 0 := by
  unfold errR formB
  by_cases h : t.codes = []
  · simp [h]
  · cases codesB t.codes <;> cases codesB t.once <;> cases codesB t.needs <;> cases withinB t.codes t.once <;> cases withinB t.codes t.needs <;> simp [h]
end

section
open Go.RowKit Go.PlainAid
theorem S_eq9 (a b : List UInt8) : ((S a).toList == (S b).toList) = decide (a = b) := by
  have h : ∀ l, (S l).toList = l := fun l => by rw [ByteArray.toList_eq]; rfl
  rw [h, h]
  exact Bool.eq_iff_iff.2 (by simp)
theorem results_row_tmp9 {P : Program} {fn : Func} {p u : Tmp} {ty : TypeId} (h : fn.results = #[.cell p ty, .tmp u]) (tmps : Array Value) (w : World) (g : Nat) (t : TypeId) (cs : Array Value) (fr : Nat × Nat) (d : TypeDesc)
    (hp : tmps.getD p undef = .pointer (some ⟨g, 0, none⟩)) (hg : w.heap[g]? = some (.cells cs t fr))
    (hu : P.underlying ty = some d) (hd : (match d with | .struct _ | .array _ _ => true | _ => false) = true) (hi : (P.info? ty).map (·.size) = some cs.size) :
    (results fn tmps).run P w = .ok (.tuple #[.agg cs, tmps.getD u undef]) w := by
  rw [results_cell_tmp h, hp]
  simp [asAddr, run_loadVar_row w g t ty cs fr d hg hu hd hi, Result.andThen]
theorem rul_set {w : World} {b : Nat} {c0 c1 c2 c3 c4 c5 c6 x0 x1 x2 x3 x4 x5 x6 : Value} (h : w.heap[b]? = some (.cells #[c0, c1, c2, c3, c4, c5, c6] 74 (0, 0))) :
    (((((((w.setCell ⟨b, 0, none⟩ x0).setCell ⟨b, 1, none⟩ x1).setCell ⟨b, 2, none⟩ x2).setCell ⟨b, 3, none⟩ x3).setCell ⟨b, 4, none⟩ x4).setCell ⟨b, 5, none⟩ x5).setCell ⟨b, 6, none⟩ x6).heap[b]? = some (.cells #[x0, x1, x2, x3, x4, x5, x6] 74 (0, 0)) := by
  simp [World.setCell, Array.getElem?_modify, h]
theorem rul_below {w0 w : World} {b B : Nat} (h : Below B w0 w) (hb : B ≤ b) (x0 x1 x2 x3 x4 x5 x6 : Value) :
    Below B w0 (((((((w.setCell ⟨b, 0, none⟩ x0).setCell ⟨b, 1, none⟩ x1).setCell ⟨b, 2, none⟩ x2).setCell ⟨b, 3, none⟩ x3).setCell ⟨b, 4, none⟩ x4).setCell ⟨b, 5, none⟩ x5).setCell ⟨b, 6, none⟩ x6) :=
  ((((((h.setCell (p := ⟨b, 0, none⟩) hb x0).setCell (p := ⟨b, 1, none⟩) hb x1).setCell (p := ⟨b, 2, none⟩) hb x2).setCell (p := ⟨b, 3, none⟩) hb x3).setCell (p := ⟨b, 4, none⟩) hb x4).setCell (p := ⟨b, 5, none⟩) hb x5).setCell (p := ⟨b, 6, none⟩) hb x6
/-- The place of a result, still zero. -/
def Z7 (b : Nat) (W : World) : Prop := W.heap[b]? = some (.cells #[.string ⟨#[]⟩, .bool false, .bool false, .string ⟨#[]⟩, .string ⟨#[]⟩, .string ⟨#[]⟩, .int .i64 0] 74 (0, 0))
theorem Z7.cells {b : Nat} {W : World} (h : Z7 b W) :
    (W.cell? ⟨b, 0, none⟩ = some (.string ⟨#[]⟩) ∧ W.cell? ⟨b, 1, none⟩ = some (.bool false) ∧ W.cell? ⟨b, 2, none⟩ = some (.bool false) ∧ W.cell? ⟨b, 3, none⟩ = some (.string ⟨#[]⟩) ∧ W.cell? ⟨b, 4, none⟩ = some (.string ⟨#[]⟩) ∧ W.cell? ⟨b, 5, none⟩ = some (.string ⟨#[]⟩) ∧ W.cell? ⟨b, 6, none⟩ = some (.int .i64 0)) ∧
    (W.frozen? ⟨b, 0, none⟩ = false ∧ W.frozen? ⟨b, 1, none⟩ = false ∧ W.frozen? ⟨b, 2, none⟩ = false ∧ W.frozen? ⟨b, 3, none⟩ = false ∧ W.frozen? ⟨b, 4, none⟩ = false ∧ W.frozen? ⟨b, 5, none⟩ = false ∧ W.frozen? ⟨b, 6, none⟩ = false) := by
  unfold Z7 at h
  refine ⟨⟨?_, ?_, ?_, ?_, ?_, ?_, ?_⟩, Lib.frozen_of_heap h 0, Lib.frozen_of_heap h 1, Lib.frozen_of_heap h 2, Lib.frozen_of_heap h 3, Lib.frozen_of_heap h 4, Lib.frozen_of_heap h 5, Lib.frozen_of_heap h 6⟩ <;> (rw [Lib.cell_of_heap h]; rfl)
theorem Z7.lt {b : Nat} {W : World} (h : Z7 b W) : b < W.heap.size := (Array.getElem?_eq_some_iff.1 h).1
theorem Z7.after {b : Nat} {W W' : World} (h : Z7 b W) (hb : Below W.heap.size W W') : Z7 b W' := (hb.block _ h.lt).trans h
theorem below_from {w W0 W : World} (h0 : Below w.heap.size w W0) (h : Below W0.heap.size W0 W) : Below w.heap.size w W := h0.trans (h.mono h0.size)

set_option maxHeartbeats 16000000 in
theorem uFind_any (l : List Rul) (v : Value) (g : List UInt8) (w : World) (hv : TL v l w) (t : Rul) (b : Bool) (hb : findR l g = (t, b)) :
    Calls Tryz.prog 49 #[v, .string (S g)] w fun e w' => e = .returned (.tuple #[UV t, .bool b]) ∧ Below w.heap.size w w' := by
  have HU := Lib.hid hv
  obtain ⟨a, cap, rfl, hcap, hmax⟩ := hv.length
  unfold maxLen at hmax
  obtain ⟨n, hn⟩ : ∃ n, l.length = n := ⟨_, rfl⟩
  rw [hn] at hcap HU ⊢
  have HN := Lib.hid hn
  have HHit := Lib.hid (fun k (hk : k < n) h he => hb.symm.trans (findR_hit l g k (by omega) h he))
  have HMiss := Lib.hid (fun h => hb.symm.trans (findR_miss l g h))
  obtain ⟨W0, hW0⟩ : ∃ W0, w.alloc (.cells #[.string ⟨#[]⟩, .bool false, .bool false, .string ⟨#[]⟩, .string ⟨#[]⟩, .string ⟨#[]⟩, .int .i64 0] 74) = W0 := ⟨_, rfl⟩
  have hZ : Z7 w.heap.size W0 := by rw [← hW0]; exact heap_alloc_new w _
  have b0 : Below w.heap.size w W0 := by rw [← hW0]; exact (Below.refl w.heap.size w).alloc (Nat.le_refl _) _
  have HZ := Lib.hid hZ
  have HB0 := Lib.hid b0
  have HU0 := Lib.hid (HU.out.after b0)
  have HW0 := Lib.hid hW0
  have HRef := Lib.hid (Below.refl W0.heap.size W0)
  have HEq := Lib.hid (fun k => S_eq9 (l.getD k rul0).tag g)
  obtain ⟨sg, hsg⟩ : ∃ s, S g = s := ⟨_, rfl⟩
  rw [hsg] at HEq ⊢
  clear hn hW0 hZ b0 hv hb hsg
  go_enter Tryz.func49, Tryz.ntmps49
  go_wp2
  rw [HW0.out]
  go_loopw [10] (fun i wr => ∃ k : Nat, k ≤ n ∧ i = .int .i64 (k : Int) ∧ RowKit.Hid (∀ j, j < k → (l.getD j rul0).tag ≠ g) ∧ Below W0.heap.size W0 wr) (fun i _ => n - (intOf i).toNat)
  case atStart => exact ⟨0, Nat.zero_le _, rfl, (fun j hj => by omega), HRef.out⟩
  case round =>
    obtain ⟨k, hk, rfl, HJ, hbw⟩ := hrel
    by_cases hkn : k < n
    · obtain ⟨g', o, cap', he, hg, hR⟩ := (HU0.out.after hbw).at k (by rw [HN.out]; exact hkn)
      obtain ⟨ha, -, hcp⟩ := Value.slice.inj he
      subst ha hcp
      clear he
      obtain ⟨c0, c1, c2, c3, c4, c5, c6⟩ := hR
      have i1 : (0 : Int) ≤ (k : Int) := by omega
      have i2 : (k : Int) < (n : Int) := by omega
      have hte := HEq.out k
      have HHk := Lib.hid (HHit.out k hkn HJ.out)
      obtain ⟨tk, htk⟩ : ∃ tk, l.getD k rul0 = tk := ⟨_, rfl⟩
      rw [htk] at c0 c1 c2 c3 c4 c5 c6 hte HHk
      have HTK := Lib.hid htk
      have ha := hbw.alloc hbw.size (.cells #[.string (S tk.tag), .bool tk.rep, .bool tk.must, .string (S tk.codes), .string (S tk.once), .string (S tk.needs), .int .i64 tk.auth] 74)
      have hX := UB.new tk wr
      obtain ⟨wa, hwa⟩ : ∃ wa, wr.alloc (.cells #[.string (S tk.tag), .bool tk.rep, .bool tk.must, .string (S tk.codes), .string (S tk.once), .string (S tk.needs), .int .i64 tk.auth] 74) = wa := ⟨_, rfl⟩
      rw [hwa] at ha hX
      obtain ⟨y0, y1, y2, y3, y4, y5, y6⟩ := hX.cells
      have HWA := Lib.hid hwa
      have HA := Lib.hid ha
      have HX := Lib.hid hX
      clear hwa ha hX htk HHit
      by_cases htg : tk.tag = g
      · rw [decide_eq_true htg] at hte
        have HRes := Lib.hid (HHk.out htg)
        clear htg
        go_upto_region 4 with fail
        rw [HWA.out]
        obtain ⟨⟨k0, k1, k2, k3, k4, k5, k6⟩, f0, f1, f2, f3, f4, f5, f6⟩ := (HZ.out.after HA.out).cells
        have hne : wr.heap.size ≠ w.heap.size := by
          have := hbw.size
          have := HZ.out.lt
          omega
        clear c0 c1 c2 c3 c4 c5 c6
        go_wp2
        have hz := rul_set (x0 := .string (S tk.tag)) (x1 := .bool tk.rep) (x2 := .bool tk.must) (x3 := .string (S tk.codes)) (x4 := .string (S tk.once)) (x5 := .string (S tk.needs)) (x6 := .int .i64 tk.auth) (HZ.out.after HA.out)
        refine bodyPost_ret (results_row_tmp9 rfl _ _ w.heap.size _ _ _ _ rfl hz Tryz.underlying74 rfl (by kernel_rfl)) rfl ?_
        have hr := HRes.out
        simp only [Prod.mk.injEq] at hr
        obtain ⟨rfl, rfl⟩ := hr
        exact ⟨rfl, rul_below (below_from HB0.out HA.out) (Nat.le_refl _) _ _ _ _ _ _ _⟩
      · rw [decide_eq_false htg] at hte
        have HJ2 : RowKit.Hid (∀ j, j < k + 1 → (l.getD j rul0).tag ≠ g) := by
          intro j hj
          rcases Nat.lt_or_ge j k with h | h
          · exact HJ.out j h
          · rw [show j = k by omega, HTK.out]; exact htg
        clear htg
        go_upto_region 4 with fail
        rw [HWA.out]
        clear HJ c0 c1 c2 c3 c4 c5 c6
        go_wp2
        go_roundw
        case rel => exact ⟨k + 1, by omega, by go_num, HJ2, HA.out⟩
        case measure => simp [intOf]; omega
    · obtain rfl : k = n := by omega
      have HRes := Lib.hid (HMiss.out (fun j hj => HJ.out j (by rw [HN.out] at hj; exact hj)))
      obtain ⟨⟨k0, k1, k2, k3, k4, k5, k6⟩, f0, f1, f2, f3, f4, f5, f6⟩ := (HZ.out.after hbw).cells
      go_wp2
      have hz := rul_set (x0 := .string ⟨#[]⟩) (x1 := .bool false) (x2 := .bool false) (x3 := .string ⟨#[]⟩) (x4 := .string ⟨#[]⟩) (x5 := .string ⟨#[]⟩) (x6 := .int .i64 0) (HZ.out.after hbw)
      refine bodyPost_ret (results_row_tmp9 rfl _ _ w.heap.size _ _ _ _ rfl hz Tryz.underlying74 rfl (by kernel_rfl)) rfl ?_
      have hr := HRes.out
      simp only [Prod.mk.injEq] at hr
      obtain ⟨rfl, rfl⟩ := hr
      exact ⟨rfl, rul_below (below_from HB0.out hbw) (Nat.le_refl _) _ _ _ _ _ _ _⟩
end

section
open Go.RowKit Go.PlainAid
set_option maxHeartbeats 16000000 in
theorem refFind_any (l : List Rul) (v : Value) (g : List UInt8) (w : World) (hv : TL v l w) (t : Rul) (b : Bool) (hb : findR l g = (t, b)) :
    Calls Tryz.prog 69 #[v, .string (S g)] w fun e w' => e = .returned (.tuple #[UV t, .bool b]) ∧ Below w.heap.size w w' := by
  have HU := Lib.hid hv
  obtain ⟨a, cap, rfl, hcap, hmax⟩ := hv.length
  unfold maxLen at hmax
  obtain ⟨n, hn⟩ : ∃ n, l.length = n := ⟨_, rfl⟩
  rw [hn] at hcap HU ⊢
  have HN := Lib.hid hn
  have HHit := Lib.hid (fun k (hk : k < n) h he => hb.symm.trans (findR_hit l g k (by omega) h he))
  have HMiss := Lib.hid (fun h => hb.symm.trans (findR_miss l g h))
  obtain ⟨W0, hW0⟩ : ∃ W0, w.alloc (.cells #[.string ⟨#[]⟩, .bool false, .bool false, .string ⟨#[]⟩, .string ⟨#[]⟩, .string ⟨#[]⟩, .int .i64 0] 74) = W0 := ⟨_, rfl⟩
  have hZ : Z7 w.heap.size W0 := by rw [← hW0]; exact heap_alloc_new w _
  have b0 : Below w.heap.size w W0 := by rw [← hW0]; exact (Below.refl w.heap.size w).alloc (Nat.le_refl _) _
  have HZ := Lib.hid hZ
  have HB0 := Lib.hid b0
  have HU0 := Lib.hid (HU.out.after b0)
  have HW0 := Lib.hid hW0
  have HRef := Lib.hid (Below.refl W0.heap.size W0)
  have HEq := Lib.hid (fun k => S_eq9 (l.getD k rul0).tag g)
  obtain ⟨sg, hsg⟩ : ∃ s, S g = s := ⟨_, rfl⟩
  rw [hsg] at HEq ⊢
  clear hn hW0 hZ b0 hv hb hsg
  go_enter Tryz.func69, Tryz.ntmps69
  go_wp2
  rw [HW0.out]
  go_loopw [6] (fun i wr => ∃ k : Nat, k ≤ n ∧ i = .int .i64 (k : Int) ∧ RowKit.Hid (∀ j, j < k → (l.getD j rul0).tag ≠ g) ∧ wr = W0) (fun i _ => n - (intOf i).toNat)
  case atStart => exact ⟨0, Nat.zero_le _, rfl, (fun j hj => by omega), rfl⟩
  case round =>
    obtain ⟨k, hk, rfl, HJ, hwr⟩ := hrel
    by_cases hkn : k < n
    · obtain ⟨g', o, cap', he, hg, hR⟩ := (HU0.out).at k (by rw [HN.out]; exact hkn)
      rw [← hwr] at hR
      obtain ⟨ha, -, hcp⟩ := Value.slice.inj he
      subst ha hcp
      clear he
      obtain ⟨c0, c1, c2, c3, c4, c5, c6⟩ := hR
      have i1 : (0 : Int) ≤ (k : Int) := by omega
      have i2 : (k : Int) < (n : Int) := by omega
      have hte := HEq.out k
      have HHk := Lib.hid (HHit.out k hkn HJ.out)
      obtain ⟨tk, htk⟩ : ∃ tk, l.getD k rul0 = tk := ⟨_, rfl⟩
      rw [htk] at c0 c1 c2 c3 c4 c5 c6 hte HHk
      have HTK := Lib.hid htk
      have hzw : Z7 w.heap.size wr := by rw [hwr]; exact HZ.out
      have HZw := Lib.hid hzw
      have HWr := Lib.hid hwr
      clear htk HHit hwr
      by_cases htg : tk.tag = g
      · rw [decide_eq_true htg] at hte
        have HRes := Lib.hid (HHk.out htg)
        obtain ⟨⟨k0, k1, k2, k3, k4, k5, k6⟩, f0, f1, f2, f3, f4, f5, f6⟩ := hzw.cells
        clear htg hzw
        go_wp2
        have hz := rul_set (x0 := .string (S tk.tag)) (x1 := .bool tk.rep) (x2 := .bool tk.must) (x3 := .string (S tk.codes)) (x4 := .string (S tk.once)) (x5 := .string (S tk.needs)) (x6 := .int .i64 tk.auth) HZw.out
        refine bodyPost_ret (results_row_tmp9 rfl _ _ w.heap.size _ _ _ _ rfl hz Tryz.underlying74 rfl (by kernel_rfl)) rfl ?_
        have hr := HRes.out
        simp only [Prod.mk.injEq] at hr
        obtain ⟨rfl, rfl⟩ := hr
        exact ⟨rfl, rul_below (by rw [HWr.out]; exact HB0.out) (Nat.le_refl _) _ _ _ _ _ _ _⟩
      · rw [decide_eq_false htg] at hte
        have HJ2 : RowKit.Hid (∀ j, j < k + 1 → (l.getD j rul0).tag ≠ g) := by
          intro j hj
          rcases Nat.lt_or_ge j k with h | h
          · exact HJ.out j h
          · rw [show j = k by omega, HTK.out]; exact htg
        clear htg HJ hzw
        go_wp2
        go_roundw
        case rel => exact ⟨k + 1, by omega, by go_num, HJ2, HWr.out⟩
        case measure => simp [intOf]; omega
    · obtain rfl : k = n := by omega
      have HRes := Lib.hid (HMiss.out (fun j hj => HJ.out j (by rw [HN.out] at hj; exact hj)))
      have hzw : Z7 w.heap.size wr := by rw [hwr]; exact HZ.out
      have HZw := Lib.hid hzw
      have HWr := Lib.hid hwr
      obtain ⟨⟨k0, k1, k2, k3, k4, k5, k6⟩, f0, f1, f2, f3, f4, f5, f6⟩ := hzw.cells
      clear hwr hzw
      go_wp2
      have hz := rul_set (x0 := .string ⟨#[]⟩) (x1 := .bool false) (x2 := .bool false) (x3 := .string ⟨#[]⟩) (x4 := .string ⟨#[]⟩) (x5 := .string ⟨#[]⟩) (x6 := .int .i64 0) HZw.out
      refine bodyPost_ret (results_row_tmp9 rfl _ _ w.heap.size _ _ _ _ rfl hz Tryz.underlying74 rfl (by kernel_rfl)) rfl ?_
      have hr := HRes.out
      simp only [Prod.mk.injEq] at hr
      obtain ⟨rfl, rfl⟩ := hr
      exact ⟨rfl, rul_below (by rw [HWr.out]; exact HB0.out) (Nat.le_refl _) _ _ _ _ _ _ _⟩
end

section
open Go.RowKit Go.PlainAid
set_option maxHeartbeats 8000000 in
set_option maxRecDepth 100000 in
theorem pKind_any (t : List UInt8) (w : World) (hS : ST w) :
    Calls Tryz.prog 25 #[.string (S t)] w fun e w' => e = .returned (.int .i64 (kindX t)) ∧ Below w.heap.size w w' := by
  have C0 := Lib.hid (uStandard_any w hS)
  obtain ⟨r, b, hr⟩ : ∃ r b, findR stdL t = (r, b) := ⟨_, _, rfl⟩
  have HK : RowKit.Hid (kindX t = r.auth) := by
    unfold kindX
    show (findR stdL t).1.auth = r.auth
    rw [hr]
  have CF := Lib.hid (fun v W hv => uFind_any stdL v t W hv r b hr)
  clear hS hr
  unfold UV at CF
  rw [HK.out]
  generalize S t = st at *
  generalize S r.tag = a0 at *
  generalize S r.codes = a1 at *
  generalize S r.once = a2 at *
  generalize S r.needs = a3 at *
  generalize r.auth = a4 at *
  go_enter Tryz.func25, Tryz.ntmps25
  go_wp2_with fail
  refine C0.out.mono ?_
  rintro e w1 ⟨v, rfl, hv, hb1⟩
  have C1 := Lib.hid (CF.out v w1 hv)
  clear hv
  go_wp2_with fail
  refine C1.out.mono ?_
  rintro e w2 ⟨rfl, hb2⟩
  have hb3 := hb1.trans (hb2.mono hb1.size)
  have HB := Lib.hid (hb3.alloc hb3.size (.cells #[.string a0, .bool r.rep, .bool r.must, .string a1, .string a2, .string a3, .int .i64 a4] 74))
  clear hb1 hb2 hb3
  go_wp2
  go_ret
  exact ⟨rfl, HB.out⟩
set_option maxHeartbeats 8000000 in
set_option maxRecDepth 100000 in
theorem refKind_any (t : List UInt8) (w : World) :
    Calls Tryz.prog 34 #[.string (S t)] w fun e w' => e = .returned (.int .i64 (kindX t)) ∧ Below w.heap.size w w' := by
  have C0 := Lib.hid (refStandard_any w)
  obtain ⟨r, b, hr⟩ : ∃ r b, findR stdL t = (r, b) := ⟨_, _, rfl⟩
  have HK : RowKit.Hid (kindX t = r.auth) := by
    unfold kindX
    show (findR stdL t).1.auth = r.auth
    rw [hr]
  have H0 : RowKit.Hid (b = false → r.auth = 0) := by
    intro h
    rcases findR_cases stdL t with ⟨_, h2⟩ | ⟨h1, _, _⟩
    · rw [hr] at h2
      rw [show r = rul0 from h2]
      rfl
    · rw [hr] at h1
      rw [show b = true from h1] at h
      cases h
  have CF := Lib.hid (fun v W hv => refFind_any stdL v t W hv r b hr)
  clear hr
  unfold UV at CF
  rw [HK.out]
  generalize S t = st at *
  generalize S r.tag = a0 at *
  generalize S r.codes = a1 at *
  generalize S r.once = a2 at *
  generalize S r.needs = a3 at *
  generalize r.auth = a4 at *
  go_enter Tryz.func34, Tryz.ntmps34
  go_wp2_with fail
  refine C0.out.mono ?_
  rintro e w1 ⟨v, rfl, hv, hb1⟩
  have C1 := Lib.hid (CF.out v w1 hv)
  clear hv
  go_wp2_with fail
  refine C1.out.mono ?_
  rintro e w2 ⟨rfl, hb2⟩
  have hb3 := hb1.trans (hb2.mono hb1.size)
  have HB := Lib.hid (hb3.alloc hb3.size (.cells #[.string a0, .bool r.rep, .bool r.must, .string a1, .string a2, .string a3, .int .i64 a4] 74))
  clear hb1 hb2 hb3
  cases b
  · have h0 := H0.out rfl
    subst h0
    go_wp2
    go_ret
    exact ⟨rfl, HB.out⟩
  · go_wp2
    go_ret
    exact ⟨rfl, HB.out⟩
end

section
/-- The number that the digits make, and what stands behind it. -/
def authL : List UInt8 → Nat → Nat × List UInt8
  | [], a => (a, [])
  | c :: t, a => if digB c = true ∧ a ≤ 9999 then authL t (a * 10 + (c.toNat - 48)) else (a, c :: t)
/-- A value, and what stands behind it. -/
def valL : List UInt8 → List UInt8 × List UInt8
  | [] => ([], [])
  | [c] => if c ≠ 36 then ([c], []) else ([], [c])
  | c :: d :: t => if c ≠ 36 then (c :: (valL (d :: t)).1, (valL (d :: t)).2) else if d = 36 then (36 :: (valL t).1, (valL t).2) else ([], c :: d :: t)
theorem valL_other (c : UInt8) (l : List UInt8) (h : c ≠ 36) : valL (c :: l) = (c :: (valL l).1, (valL l).2) := by
  cases l with
  | nil =>
    show valL [c] = ([c], [])
    rw [valL, if_pos h]
  | cons d t => rw [valL, if_pos h]
theorem valL_two (t : List UInt8) : valL (36 :: 36 :: t) = (36 :: (valL t).1, (valL t).2) := by
  rw [valL, if_neg (fun h => h rfl), if_pos rfl]
theorem valL_end (l : List UInt8) (h : l = [] ∨ l = [36] ∨ ∃ d t, l = 36 :: d :: t ∧ d ≠ 36) : valL l = ([], l) := by
  rcases h with rfl | rfl | ⟨d, t, rfl, h⟩
  · rfl
  · rw [valL, if_neg (fun h => h rfl)]
  · rw [valL, if_neg (fun h => h rfl), if_neg h]
theorem valL_le : ∀ l : List UInt8, (valL l).2.length ≤ l.length
  | [] => Nat.le_refl _
  | [c] => by rw [valL]; split <;> simp
  | c :: d :: t => by
    have h1 := valL_le (d :: t)
    have h2 := valL_le t
    rw [valL]
    split
    · simp at h1 ⊢; omega
    · split
      · simp; omega
      · simp
def subsF : Nat → List UInt8 → Option (List Sub)
  | _, [] => some []
  | 0, _ :: _ => none
  | _ + 1, [_] => none
  | k + 1, c :: d :: t => if c ≠ 36 then none else (subsF k (valL t).2).map fun L => (d, (valL t).1) :: L
def unB (c : UInt8) : UInt8 := if c = 35 then 32 else c
def authR (l : List UInt8) : Nat × List UInt8 := if l.getD 0 0 = 64 then authL (l.drop 1) 0 else (0, l)
def readL (s : List UInt8) : Option Fld :=
  if s.length < 8 then none
  else if (authR (s.drop 3)).2.length < 4 ∨ (authR (s.drop 3)).2.getD 0 0 ≠ 32 ∨ (authR (s.drop 3)).2.getD 3 0 ≠ 32 then none
  else if (authR (s.drop 3)).2.getD 1 0 = 32 ∨ (authR (s.drop 3)).2.getD 2 0 = 32 then none
  else (subsF s.length ((authR (s.drop 3)).2.drop 4)).map fun L => ⟨s.take 3, [unB ((authR (s.drop 3)).2.getD 1 0), unB ((authR (s.drop 3)).2.getD 2 0)], L, ((authR (s.drop 3)).1 : Nat)⟩
/-- What Parse returns, if it is no error. -/
def parseO (s : List UInt8) : Option Fld :=
  match readL s with
  | none => none
  | some f => if rightI f = 0 ∧ lineL f = s then some f else none
theorem parse_sound (s : List UInt8) (f : Fld) (h : parseO s = some f) : rightI f = 0 ∧ lineL f = s := by
  unfold parseO at h
  split at h
  · cases h
  · split at h
    · cases h; assumption
    · cases h

theorem valL_dbl : ∀ (v r : List UInt8), (r = [] ∨ ∃ d t, r = 36 :: d :: t ∧ d ≠ 36) → valL (dblL v ++ r) = (v, r)
  | [], r, h => valL_end r (by rcases h with h | h; exact .inl h; exact .inr (.inr h))
  | x :: t, r, h => by
    rw [dblL]
    by_cases hx : x = 36
    · rw [if_pos hx, List.cons_append, List.cons_append, valL_two, valL_dbl t r h, hx]
    · rw [if_neg hx, List.cons_append, valL_other x _ hx, valL_dbl t r h]
theorem code_36 (c : UInt8) (h : codeB c = true) : c ≠ 36 := by
  rintro rfl
  exact absurd h (by decide)
theorem body_form (L : List Sub) (h : ∀ i, i < L.length → codeB (L.getD i sub0).1 = true) : bodyL L = [] ∨ ∃ d t, bodyL L = 36 :: d :: t ∧ d ≠ 36 := by
  cases L with
  | nil => exact .inl rfl
  | cons s t => exact .inr ⟨s.1, dblL s.2 ++ bodyL t, by simp [bodyL, subP], code_36 _ (h 0 (by simp))⟩
theorem subs_back : ∀ (L : List Sub) (k : Nat), (bodyL L).length ≤ k → (∀ i, i < L.length → codeB (L.getD i sub0).1 = true) → subsF k (bodyL L) = some L
  | [], k, _, _ => by
    show subsF k [] = _
    cases k <;> rfl
  | s :: t, k, hk, h => by
    have e : bodyL (s :: t) = 36 :: s.1 :: (dblL s.2 ++ bodyL t) := by simp [bodyL, subP]
    have ht : ∀ i, i < t.length → codeB (t.getD i sub0).1 = true := fun i hi => h (i + 1) (by simpa using hi)
    rw [e] at hk ⊢
    cases k with
    | zero => simp at hk
    | succ k =>
      rw [subsF, if_neg (fun h => h rfl), valL_dbl s.2 _ (body_form t ht), subs_back t k (by simp at hk; omega) ht]
      rfl
theorem dig_of (r : Nat) (h : r < 10) : digB (dgt r) = true := by
  rw [digB_iff, dgt_nat r (by omega)]
  omega
theorem auth_digits : ∀ (n : Nat) (r : List UInt8), n ≤ 99999 → authL (Lib.decDigits n ++ r) 0 = authL r n := by
  intro n
  induction n using Nat.strongRecOn with
  | ind n ih =>
    intro r hn
    by_cases h : n < 10
    · rw [dec1 n h]
      show authL (dgt n :: r) 0 = _
      rw [authL, if_pos ⟨dig_of n h, by omega⟩, dgt_nat n (by omega)]
      congr 1
      omega
    · rw [decS n h, List.append_assoc, ih (n / 10) (by omega) _ (by omega)]
      show authL (dgt (n % 10) :: r) (n / 10) = _
      rw [authL, if_pos ⟨dig_of _ (Nat.mod_lt _ (by decide)), by omega⟩, dgt_nat _ (by omega)]
      congr 1
      omega
theorem authR_back (n : Int) (h0 : 0 ≤ n) (h1 : n ≤ 9999) (r : List UInt8) : authR (authP n ++ 32 :: r) = (n.toNat, 32 :: r) := by
  unfold authP
  by_cases h : n = 0
  · subst h
    rfl
  · rw [if_neg h]
    have hp := dec_pos n.toNat
    have e : padL 1 (Lib.decDigits n.toNat) = Lib.decDigits n.toNat := by
      unfold padL
      rw [show 1 - (Lib.decDigits n.toNat).length = 0 by omega]
      rfl
    rw [e]
    show authR (64 :: (Lib.decDigits n.toNat ++ 32 :: r)) = _
    unfold authR
    rw [if_pos (by rfl), List.drop_succ_cons, List.drop_zero, auth_digits _ _ (by omega), authL, if_neg (fun hh => absurd hh.1 (by decide))]
theorem mark_form (c : UInt8) (h : indB c = true) : ∃ d, markB c = [d] ∧ d ≠ 32 ∧ unB d = c := by
  unfold markB
  by_cases h32 : c = 32
  · rw [if_pos h32]
    exact ⟨35, rfl, by decide, by rw [h32]; rfl⟩
  · rw [if_neg h32]
    refine ⟨c, rfl, h32, ?_⟩
    unfold unB
    rw [if_neg]
    rintro rfl
    exact absurd h (by decide)
theorem read_back (f : Fld) (h : rightI f = 0) : readL (lineL f) = some f := by
  obtain ⟨htag, hind, hn1, hn16, hsub, ha0, ha1⟩ := right_facts f h
  have hcode : ∀ i, i < f.subs.length → codeB (f.subs.getD i sub0).1 = true := fun i hi => (subE_zero _ (hsub i hi)).1
  have h3 := tagB_len _ htag
  have h2 := indsB_len _ hind
  obtain ⟨tag, ind, subs, au⟩ := f
  match tag, h3, ind, h2, subs with
  | [t0, t1, t2], _, [i0, i1], _, subs =>
    have hi0 : indB i0 = true := by
      unfold indsB at hind
      simp only [Bool.and_eq_true] at hind
      exact hind.1.2
    have hi1 : indB i1 = true := by
      unfold indsB at hind
      simp only [Bool.and_eq_true] at hind
      exact hind.2
    obtain ⟨d0, m0, n0, u0⟩ := mark_form i0 hi0
    obtain ⟨d1, m1, n1, u1⟩ := mark_form i1 hi1
    have e : lineL ⟨[t0, t1, t2], [i0, i1], subs, au⟩ = [t0, t1, t2] ++ (authP au ++ 32 :: (d0 :: d1 :: 32 :: bodyL subs)) := by
      unfold lineL headL
      show [t0, t1, t2] ++ authP au ++ 32 :: (markB i0 ++ markB i1 ++ [32]) ++ bodyL subs = _
      rw [m0, m1]
      simp
    have hdrop : ([t0, t1, t2] ++ (authP au ++ 32 :: (d0 :: d1 :: 32 :: bodyL subs))).drop 3 = authP au ++ 32 :: (d0 :: d1 :: 32 :: bodyL subs) := rfl
    have htake : ([t0, t1, t2] ++ (authP au ++ 32 :: (d0 :: d1 :: 32 :: bodyL subs))).take 3 = [t0, t1, t2] := rfl
    have hbl : 2 ≤ (bodyL subs).length := by
      cases subs with
      | nil => cases hn1
      | cons s t => simp [bodyL, subP]
    have hlen : ([t0, t1, t2] ++ (authP au ++ 32 :: (d0 :: d1 :: 32 :: bodyL subs))).length = 7 + (authP au).length + (bodyL subs).length := by simp; omega
    have hr := authR_back au ha0 ha1 (d0 :: d1 :: 32 :: bodyL subs)
    have hs := subs_back subs (7 + (authP au).length + (bodyL subs).length) (by omega) hcode
    unfold readL
    rw [e, hdrop, htake, hlen, hr, if_neg (by omega), if_neg, if_neg]
    · show (subsF _ (bodyL subs)).map _ = _
      rw [hs]
      show some (Fld.mk [t0, t1, t2] [unB d0, unB d1] subs ((au.toNat : Nat) : Int)) = _
      rw [u0, u1, Int.toNat_of_nonneg ha0]
    · show ¬ (d0 = 32 ∨ d1 = 32)
      exact fun h => h.elim n0 n1
    · show ¬ ((32 :: d0 :: d1 :: 32 :: bodyL subs).length < 4 ∨ (32 : UInt8) ≠ 32 ∨ (32 : UInt8) ≠ 32)
      simp
theorem parse_back (f : Fld) (h : rightI f = 0) : parseO (lineL f) = some f := by
  unfold parseO
  rw [read_back f h]
  show (if rightI f = 0 ∧ lineL f = lineL f then some f else none) = some f
  rw [if_pos ⟨h, rfl⟩]
theorem line_inj (f g : Fld) (hf : rightI f = 0) (hg : rightI g = 0) (h : lineL f = lineL g) : f = g := by
  have h1 := parse_back f hf
  rw [h, parse_back g hg] at h1
  exact (Option.some.inj h1).symm
end

end Go.Proofs.YthjdopnoophigaaGreatDoor
