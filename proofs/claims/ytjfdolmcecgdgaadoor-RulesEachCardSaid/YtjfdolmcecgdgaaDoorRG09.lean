/- libraryref09: SameProblems, Same, problem. -/
import Derived.Test.YtjfdolmcecgdgaaDoorRF09
import Derived.Deep.CutBlock
namespace Go.Proofs.YtjfdolmcecgdgaaDoor
open Go.RowKit Go.PlainAid

set_option maxHeartbeats 16000000 in
set_option maxRecDepth 100000 in
theorem refSameP_any (A B : List Prb) (x y : Value) (w : World) (hx : PL x A w) (hy : PL y B w) (b : Bool) (hb : b = true ↔ A = B) :
    Calls Tryd.prog 20 #[x, y] w fun e w' => e = .returned (.bool b) ∧ Below w.heap.size w w' := by
  have HU := Lib.hid hx
  have HV := Lib.hid hy
  obtain ⟨a, cap, rfl, hcap, hmax⟩ := hx.length
  obtain ⟨a', cap2, rfl, hcap2, hmax2⟩ := hy.length
  unfold maxLen at hmax hmax2
  obtain ⟨n, hn⟩ : ∃ n, A.length = n := ⟨_, rfl⟩
  obtain ⟨m, hm⟩ : ∃ m, B.length = m := ⟨_, rfl⟩
  have HN := Lib.hid hn
  have HM := Lib.hid hm
  rw [hn] at hcap HU ⊢
  rw [hm] at hcap2 HV ⊢
  have HEqt := Lib.hid hb
  have HX := Lib.hid (fun (h1 : n = m) (h : ∀ j, j < n → A.getD j prb0 = B.getD j prb0) => list_ext_at prb0 A B (by omega) (by rw [hn]; exact h))
  have HRef := Lib.hid (Below.refl w.heap.size w)
  have hg : Tryd.prog.eqGuardType Tryd.prog.depth 44 = false := by kernel_rfl
  by_cases hlen : n = m
  · subst hlen
    clear hn hm hx hy hb
    go_enter Tryd.func20, Tryd.ntmps20
    go_wp2
    go_loopw [5] (fun i wr => ∃ k : Nat, k ≤ n ∧ i = .int .i64 (k : Int) ∧ RowKit.Hid (∀ j, j < k → A.getD j prb0 = B.getD j prb0) ∧ Below w.heap.size w wr) (fun i _ => n - (intOf i).toNat)
    case atStart => exact ⟨0, Nat.zero_le _, rfl, (fun j hj => by omega), HRef.out⟩
    case round =>
      obtain ⟨k, hk, rfl, hj, hbw⟩ := hrel
      by_cases hkn : k < n
      · obtain ⟨g1, o1, cap', he, hg1, hR⟩ := (HU.out.after hbw).at k (by rw [HN.out]; exact hkn)
        obtain ⟨ha, -, hcp⟩ := Value.slice.inj he
        subst ha hcp
        clear he
        obtain ⟨c0, c1, c2, c3⟩ := hR
        obtain ⟨g2, o2, cap', he, hg2, hR⟩ := (HV.out.after hbw).at k (by rw [HM.out]; exact hkn)
        obtain ⟨ha, -, hcp⟩ := Value.slice.inj he
        subst ha hcp
        clear he
        obtain ⟨d0, d1, d2, d3⟩ := hR
        have i1 : (0 : Int) ≤ (k : Int) := by omega
        have i2 : (k : Int) < (n : Int) := by omega
        obtain ⟨sb, hsb⟩ : ∃ sb, samePrb (A.getD k prb0) (B.getD k prb0) = sb := ⟨_, rfl⟩
        have hE := fun W => eqIn_prb (A.getD k prb0) (B.getD k prb0) W
        rw [hsb] at hE
        unfold PV at hE
        have HIff := Lib.hid (samePrb_iff (A.getD k prb0) (B.getD k prb0))
        rw [hsb] at HIff
        have HBw := Lib.hid hbw
        clear hsb hbw
        generalize S (A.getD k prb0).tag = ta at *
        generalize S (B.getD k prb0).tag = tb at *
        generalize (((A.getD k prb0).code.toNat : Nat) : Int) = xa at *
        generalize (((B.getD k prb0).code.toNat : Nat) : Int) = xb at *
        generalize (A.getD k prb0).kind = ka at *
        generalize (B.getD k prb0).kind = kb at *
        generalize (A.getD k prb0).index = ia at *
        generalize (B.getD k prb0).index = ib at *
        cases sb
        · obtain rfl : b = false := by
            cases b
            · rfl
            · exact absurd (HIff.out.2 (by rw [HEqt.out.1 rfl])) (by simp)
          go_upto_region 6 with fail
          go_quiet (fail)
          all_goals
            go_wp2_with fail
            go_ret
            exact ⟨rfl, HBw.out.trans ((below_drawn9 _ _ _ (Below.refl _ _)).mono HBw.out.size)⟩
        · have hsame := HIff.out.1 rfl
          have HNx : RowKit.Hid (∀ j, j < k + 1 → A.getD j prb0 = B.getD j prb0) := by
            intro j hj2
            rcases Nat.lt_or_ge j k with h | h
            · exact hj.out j h
            · rw [show j = k by omega]; exact hsame
          clear hsame hj
          go_upto_region 6 with fail
          go_quiet (fail)
          all_goals
            go_wp2_with fail
            go_roundw
            case rel => exact ⟨k + 1, by omega, by go_num, HNx, HBw.out.trans ((below_drawn9 _ _ _ (Below.refl _ _)).mono HBw.out.size)⟩
            case measure => simp [intOf]; omega
      · obtain rfl : k = n := by omega
        obtain rfl : b = true := HEqt.out.2 (HX.out trivial hj.out)
        go_wp2
        go_ret
        exact ⟨rfl, hbw⟩
  · obtain rfl : b = false := by
      cases b
      · rfl
      · exact absurd (by rw [← hn, ← hm, hb.1 rfl]) hlen
    have t1 : ((n : Int) == (m : Int)) = false := beq_eq_false_iff_ne.2 (by omega)
    clear hn hm hx hy hb hlen
    go_enter Tryd.func20, Tryd.ntmps20
    go_wp2
    go_ret
    exact ⟨rfl, HRef.out⟩

set_option maxHeartbeats 16000000 in
set_option maxRecDepth 100000 in
theorem refSameT_any (A : List Rul) (x y : Value) (w : World) (hx : TL x A w) (hy : TL y A w) :
    Calls Tryd.prog 15 #[x, y] w fun e w' => e = .returned (.bool true) ∧ Below w.heap.size w w' := by
  have HU := Lib.hid hx
  have HV := Lib.hid hy
  obtain ⟨a, cap, rfl, hcap, hmax⟩ := hx.length
  obtain ⟨a', cap2, rfl, hcap2, hmax2⟩ := hy.length
  unfold maxLen at hmax hmax2
  obtain ⟨n, hn⟩ : ∃ n, A.length = n := ⟨_, rfl⟩
  have HN := Lib.hid hn
  rw [hn] at hcap hcap2 HU HV ⊢
  have HRef := Lib.hid (Below.refl w.heap.size w)
  have hg : Tryd.prog.eqGuardType Tryd.prog.depth 25 = false := by kernel_rfl
  clear hn hx hy
  go_enter Tryd.func15, Tryd.ntmps15
  go_wp2
  go_loopw [5] (fun i wr => ∃ k : Nat, k ≤ n ∧ i = .int .i64 (k : Int) ∧ Below w.heap.size w wr) (fun i _ => n - (intOf i).toNat)
  case atStart => exact ⟨0, Nat.zero_le _, rfl, HRef.out⟩
  case round =>
    obtain ⟨k, hk, rfl, hbw⟩ := hrel
    by_cases hkn : k < n
    · obtain ⟨g1, o1, cap', he, hg1, hR⟩ := (HU.out.after hbw).at k (by rw [HN.out]; exact hkn)
      obtain ⟨ha, -, hcp⟩ := Value.slice.inj he
      subst ha hcp
      clear he
      obtain ⟨c0, c1, c2, c3, c4, c5, c6⟩ := hR
      obtain ⟨g2, o2, cap', he, hg2, hR⟩ := (HV.out.after hbw).at k (by rw [HN.out]; exact hkn)
      obtain ⟨ha, -, hcp⟩ := Value.slice.inj he
      subst ha hcp
      clear he
      obtain ⟨d0, d1, d2, d3, d4, d5, d6⟩ := hR
      have i1 : (0 : Int) ≤ (k : Int) := by omega
      have i2 : (k : Int) < (n : Int) := by omega
      have hE := fun W => eqIn_rul (A.getD k rul0) (A.getD k rul0) W
      rw [(sameRul_iff _ _).2 rfl] at hE
      unfold UV at hE
      have HBw := Lib.hid hbw
      clear hbw
      generalize S (A.getD k rul0).tag = t0 at *
      generalize S (A.getD k rul0).codes = t3 at *
      generalize S (A.getD k rul0).once = t4 at *
      generalize S (A.getD k rul0).needs = t5 at *
      generalize (A.getD k rul0).rep = t1 at *
      generalize (A.getD k rul0).must = t2 at *
      generalize (A.getD k rul0).auth = t6 at *
      go_upto_region 6 with fail
      go_quiet (fail)
      all_goals
        go_wp2_with fail
        go_roundw
        case rel => exact ⟨k + 1, by omega, by go_num, HBw.out.trans ((below_drawn9 _ _ _ (Below.refl _ _)).mono HBw.out.size)⟩
        case measure => simp [intOf]; omega
    · obtain rfl : k = n := by omega
      go_wp2
      go_ret
      exact ⟨rfl, hbw⟩

theorem prb_set {w : World} {b : Nat} {c0 c1 c2 c3 x0 x1 x2 x3 : Value} (h : w.heap[b]? = some (.cells #[c0, c1, c2, c3] 44 (0, 0))) :
    ((((w.setCell ⟨b, 0, none⟩ x0).setCell ⟨b, 1, none⟩ x1).setCell ⟨b, 2, none⟩ x2).setCell ⟨b, 3, none⟩ x3).heap[b]? = some (.cells #[x0, x1, x2, x3] 44 (0, 0)) := by
  simp [World.setCell, Array.getElem?_modify, h]
set_option maxHeartbeats 8000000 in
theorem refproblem_any (kd ix : Int) (tg : ByteArray) (c : Int) (w : World) :
    Calls Tryd.prog 31 #[.int .i64 kd, .int .i64 ix, .string tg, .int .u8 c] w fun e w' => e = .returned (.agg #[.int .i64 kd, .int .i64 ix, .string tg, .int .u8 c]) ∧ Below w.heap.size w w' := by
  have hb := (Below.refl w.heap.size w).alloc (Nat.le_refl _) (.cells #[.int .i64 kd, .int .i64 ix, .string tg, .int .u8 c] 44)
  go_enter Tryd.func31, Tryd.ntmps31
  go_wp2
  refine bodyPost_ret (results_cell_row rfl _ _ w.heap.size _ _ _ _ rfl (heap_alloc_new w _) Tryd.underlying44 rfl (by kernel_rfl)) rfl ?_
  exact ⟨rfl, hb⟩
end Go.Proofs.YtjfdolmcecgdgaaDoor
