/- Package rules: Find. libraryref09: Find. -/
import Derived.Test.YtjfdolmcecgdgaaDoorRD09
import Derived.Laws.ResultCell
namespace Go.Proofs.YtjfdolmcecgdgaaDoor
open Go.RowKit Go.PlainAid

theorem S_eq9 (a b : List UInt8) : ((S a).toList == (S b).toList) = decide (a = b) := by
  have h : ∀ l, (S l).toList = l := fun l => by rw [ByteArray.toList_eq]; rfl
  rw [h, h]
  exact Bool.eq_iff_iff.2 (by simp)
theorem results_row_tmp9 {P : Program} {fn : Func} {p u : Tmp} {ty : TypeId} (h : fn.results = #[.cell p ty, .tmp u]) (tmps : Array Value) (w : World) (g : Nat) (t : TypeId) (cs : Array Value) (fr : Nat × Nat) (d : TypeDesc)
    (hp : tmps.getD p undef = .pointer (some ⟨g, 0, none⟩)) (hg : w.heap[g]? = some (.cells cs t fr))
    (hu : P.underlying ty = some d) (hd : (match d with | .struct _ | .array _ _ => true | _ => false) = true) (hi : (P.info? ty).map (·.size) = some cs.size) :
    (results fn tmps).run P w = .ok (.tuple #[.agg cs, tmps.getD u undef]) w := by
  rw [results_cell_tmp h, hp]
  simp [asAddr, run_loadVar_row w g t ty cs fr d hg hu hd hi, Result.andThen]
theorem rul_set {w : World} {b : Nat} {c0 c1 c2 c3 c4 c5 c6 x0 x1 x2 x3 x4 x5 x6 : Value} (h : w.heap[b]? = some (.cells #[c0, c1, c2, c3, c4, c5, c6] 25 (0, 0))) :
    (((((((w.setCell ⟨b, 0, none⟩ x0).setCell ⟨b, 1, none⟩ x1).setCell ⟨b, 2, none⟩ x2).setCell ⟨b, 3, none⟩ x3).setCell ⟨b, 4, none⟩ x4).setCell ⟨b, 5, none⟩ x5).setCell ⟨b, 6, none⟩ x6).heap[b]? = some (.cells #[x0, x1, x2, x3, x4, x5, x6] 25 (0, 0)) := by
  simp [World.setCell, Array.getElem?_modify, h]
theorem rul_below {w0 w : World} {b B : Nat} (h : Below B w0 w) (hb : B ≤ b) (x0 x1 x2 x3 x4 x5 x6 : Value) :
    Below B w0 (((((((w.setCell ⟨b, 0, none⟩ x0).setCell ⟨b, 1, none⟩ x1).setCell ⟨b, 2, none⟩ x2).setCell ⟨b, 3, none⟩ x3).setCell ⟨b, 4, none⟩ x4).setCell ⟨b, 5, none⟩ x5).setCell ⟨b, 6, none⟩ x6) :=
  ((((((h.setCell (p := ⟨b, 0, none⟩) hb x0).setCell (p := ⟨b, 1, none⟩) hb x1).setCell (p := ⟨b, 2, none⟩) hb x2).setCell (p := ⟨b, 3, none⟩) hb x3).setCell (p := ⟨b, 4, none⟩) hb x4).setCell (p := ⟨b, 5, none⟩) hb x5).setCell (p := ⟨b, 6, none⟩) hb x6
/-- The place of a result, still zero. -/
def Z7 (b : Nat) (W : World) : Prop := W.heap[b]? = some (.cells #[.string ⟨#[]⟩, .bool false, .bool false, .string ⟨#[]⟩, .string ⟨#[]⟩, .string ⟨#[]⟩, .int .i64 0] 25 (0, 0))
theorem Z7.cells {b : Nat} {W : World} (h : Z7 b W) :
    (W.cell? ⟨b, 0, none⟩ = some (.string ⟨#[]⟩) ∧ W.cell? ⟨b, 1, none⟩ = some (.bool false) ∧ W.cell? ⟨b, 2, none⟩ = some (.bool false) ∧ W.cell? ⟨b, 3, none⟩ = some (.string ⟨#[]⟩) ∧ W.cell? ⟨b, 4, none⟩ = some (.string ⟨#[]⟩) ∧ W.cell? ⟨b, 5, none⟩ = some (.string ⟨#[]⟩) ∧ W.cell? ⟨b, 6, none⟩ = some (.int .i64 0)) ∧
    (W.frozen? ⟨b, 0, none⟩ = false ∧ W.frozen? ⟨b, 1, none⟩ = false ∧ W.frozen? ⟨b, 2, none⟩ = false ∧ W.frozen? ⟨b, 3, none⟩ = false ∧ W.frozen? ⟨b, 4, none⟩ = false ∧ W.frozen? ⟨b, 5, none⟩ = false ∧ W.frozen? ⟨b, 6, none⟩ = false) := by
  unfold Z7 at h
  refine ⟨⟨?_, ?_, ?_, ?_, ?_, ?_, ?_⟩, Lib.frozen_of_heap h 0, Lib.frozen_of_heap h 1, Lib.frozen_of_heap h 2, Lib.frozen_of_heap h 3, Lib.frozen_of_heap h 4, Lib.frozen_of_heap h 5, Lib.frozen_of_heap h 6⟩ <;> (rw [Lib.cell_of_heap h]; rfl)
theorem Z7.lt {b : Nat} {W : World} (h : Z7 b W) : b < W.heap.size := (Array.getElem?_eq_some_iff.1 h).1
theorem Z7.after {b : Nat} {W W' : World} (h : Z7 b W) (hb : Below W.heap.size W W') : Z7 b W' := (hb.block _ h.lt).trans h
theorem below_from {w W0 W : World} (h0 : Below w.heap.size w W0) (h : Below W0.heap.size W0 W) : Below w.heap.size w W := h0.trans (h.mono h0.size)

set_option maxHeartbeats 16000000 in
theorem uFind_any (l : List Rul) (v : Value) (g : List UInt8) (w : World) (hv : TL v l w) (t : Rul) (b : Bool) (hb : findR l g = (t, b)) :
    Calls Tryd.prog 11 #[v, .string (S g)] w fun e w' => e = .returned (.tuple #[UV t, .bool b]) ∧ Below w.heap.size w w' := by
  have HU := Lib.hid hv
  obtain ⟨a, cap, rfl, hcap, hmax⟩ := hv.length
  unfold maxLen at hmax
  obtain ⟨n, hn⟩ : ∃ n, l.length = n := ⟨_, rfl⟩
  rw [hn] at hcap HU ⊢
  have HN := Lib.hid hn
  have HHit := Lib.hid (fun k (hk : k < n) h he => hb.symm.trans (findR_hit l g k (by omega) h he))
  have HMiss := Lib.hid (fun h => hb.symm.trans (findR_miss l g h))
  obtain ⟨W0, hW0⟩ : ∃ W0, w.alloc (.cells #[.string ⟨#[]⟩, .bool false, .bool false, .string ⟨#[]⟩, .string ⟨#[]⟩, .string ⟨#[]⟩, .int .i64 0] 25) = W0 := ⟨_, rfl⟩
  have hZ : Z7 w.heap.size W0 := by rw [← hW0]; exact heap_alloc_new w _
  have b0 : Below w.heap.size w W0 := by rw [← hW0]; exact (Below.refl w.heap.size w).alloc (Nat.le_refl _) _
  have HZ := Lib.hid hZ
  have HB0 := Lib.hid b0
  have HU0 := Lib.hid (HU.out.after b0)
  have HW0 := Lib.hid hW0
  have HRef := Lib.hid (Below.refl W0.heap.size W0)
  have HEq := Lib.hid (fun k => S_eq9 (l.getD k rul0).tag g)
  obtain ⟨sg, hsg⟩ : ∃ s, S g = s := ⟨_, rfl⟩
  rw [hsg] at HEq ⊢
  clear hn hW0 hZ b0 hv hb hsg
  go_enter Tryd.func11, Tryd.ntmps11
  go_wp2
  rw [HW0.out]
  go_loopw [10] (fun i wr => ∃ k : Nat, k ≤ n ∧ i = .int .i64 (k : Int) ∧ RowKit.Hid (∀ j, j < k → (l.getD j rul0).tag ≠ g) ∧ Below W0.heap.size W0 wr) (fun i _ => n - (intOf i).toNat)
  case atStart => exact ⟨0, Nat.zero_le _, rfl, (fun j hj => by omega), HRef.out⟩
  case round =>
    obtain ⟨k, hk, rfl, HJ, hbw⟩ := hrel
    by_cases hkn : k < n
    · obtain ⟨g', o, cap', he, hg, hR⟩ := (HU0.out.after hbw).at k (by rw [HN.out]; exact hkn)
      obtain ⟨ha, -, hcp⟩ := Value.slice.inj he
      subst ha hcp
      clear he
      obtain ⟨c0, c1, c2, c3, c4, c5, c6⟩ := hR
      have i1 : (0 : Int) ≤ (k : Int) := by omega
      have i2 : (k : Int) < (n : Int) := by omega
      have hte := HEq.out k
      have HHk := Lib.hid (HHit.out k hkn HJ.out)
      obtain ⟨tk, htk⟩ : ∃ tk, l.getD k rul0 = tk := ⟨_, rfl⟩
      rw [htk] at c0 c1 c2 c3 c4 c5 c6 hte HHk
      have HTK := Lib.hid htk
      have ha := hbw.alloc hbw.size (.cells #[.string (S tk.tag), .bool tk.rep, .bool tk.must, .string (S tk.codes), .string (S tk.once), .string (S tk.needs), .int .i64 tk.auth] 25)
      have hX := UB.new tk wr
      obtain ⟨wa, hwa⟩ : ∃ wa, wr.alloc (.cells #[.string (S tk.tag), .bool tk.rep, .bool tk.must, .string (S tk.codes), .string (S tk.once), .string (S tk.needs), .int .i64 tk.auth] 25) = wa := ⟨_, rfl⟩
      rw [hwa] at ha hX
      obtain ⟨y0, y1, y2, y3, y4, y5, y6⟩ := hX.cells
      have HWA := Lib.hid hwa
      have HA := Lib.hid ha
      have HX := Lib.hid hX
      clear hwa ha hX htk HHit
      by_cases htg : tk.tag = g
      · rw [decide_eq_true htg] at hte
        have HRes := Lib.hid (HHk.out htg)
        clear htg
        go_upto_region 4 with fail
        rw [HWA.out]
        obtain ⟨⟨k0, k1, k2, k3, k4, k5, k6⟩, f0, f1, f2, f3, f4, f5, f6⟩ := (HZ.out.after HA.out).cells
        have hne : wr.heap.size ≠ w.heap.size := by
          have := hbw.size
          have := HZ.out.lt
          omega
        clear c0 c1 c2 c3 c4 c5 c6
        go_wp2
        have hz := rul_set (x0 := .string (S tk.tag)) (x1 := .bool tk.rep) (x2 := .bool tk.must) (x3 := .string (S tk.codes)) (x4 := .string (S tk.once)) (x5 := .string (S tk.needs)) (x6 := .int .i64 tk.auth) (HZ.out.after HA.out)
        refine bodyPost_ret (results_row_tmp9 rfl _ _ w.heap.size _ _ _ _ rfl hz Tryd.underlying25 rfl (by kernel_rfl)) rfl ?_
        have hr := HRes.out
        simp only [Prod.mk.injEq] at hr
        obtain ⟨rfl, rfl⟩ := hr
        exact ⟨rfl, rul_below (below_from HB0.out HA.out) (Nat.le_refl _) _ _ _ _ _ _ _⟩
      · rw [decide_eq_false htg] at hte
        have HJ2 : RowKit.Hid (∀ j, j < k + 1 → (l.getD j rul0).tag ≠ g) := by
          intro j hj
          rcases Nat.lt_or_ge j k with h | h
          · exact HJ.out j h
          · rw [show j = k by omega, HTK.out]; exact htg
        clear htg
        go_upto_region 4 with fail
        rw [HWA.out]
        clear HJ c0 c1 c2 c3 c4 c5 c6
        go_wp2
        go_roundw
        case rel => exact ⟨k + 1, by omega, by go_num, HJ2, HA.out⟩
        case measure => simp [intOf]; omega
    · obtain rfl : k = n := by omega
      have HRes := Lib.hid (HMiss.out (fun j hj => HJ.out j (by rw [HN.out] at hj; exact hj)))
      obtain ⟨⟨k0, k1, k2, k3, k4, k5, k6⟩, f0, f1, f2, f3, f4, f5, f6⟩ := (HZ.out.after hbw).cells
      go_wp2
      have hz := rul_set (x0 := .string ⟨#[]⟩) (x1 := .bool false) (x2 := .bool false) (x3 := .string ⟨#[]⟩) (x4 := .string ⟨#[]⟩) (x5 := .string ⟨#[]⟩) (x6 := .int .i64 0) (HZ.out.after hbw)
      refine bodyPost_ret (results_row_tmp9 rfl _ _ w.heap.size _ _ _ _ rfl hz Tryd.underlying25 rfl (by kernel_rfl)) rfl ?_
      have hr := HRes.out
      simp only [Prod.mk.injEq] at hr
      obtain ⟨rfl, rfl⟩ := hr
      exact ⟨rfl, rul_below (below_from HB0.out hbw) (Nat.le_refl _) _ _ _ _ _ _ _⟩
end Go.Proofs.YtjfdolmcecgdgaaDoor
