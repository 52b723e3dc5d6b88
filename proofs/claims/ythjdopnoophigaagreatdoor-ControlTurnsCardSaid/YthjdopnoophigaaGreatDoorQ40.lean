/- Merged: R11L, LB14, ShapedAnd, ArgsQ, ArgsT. -/
import Derived.Test.YthjdopnoophigaaGreatDoorQ21
import Derived.Test.YthjdopnoophigaaGreatDoorQ33
import Derived.Deep.CutBlock
import Derived.Deep.DeepCutAuto
import Derived.Deep.RegionLaw
import Derived.RegionTactic
import Derived.BigRegion
import Derived.Test.YthjdopnoophigaaGreatDoorQ04
import Derived.Test.YthjdopnoophigaaGreatDoorQ05
import Derived.Test.YthjdopnoophigaaGreatDoorQ37
import Derived.Test.YthjdopnoophigaaGreatDoorQ38
import Derived.Test.YthjdopnoophigaaGreatDoorQ39
import Derived.Test.YthjdopnoophigaaGreatDoorProg
import Derived.Handed
import Derived.Test.YthjdopnoophigaaGreatDoorQ07
import Derived.Test.YthjdopnoophigaaGreatDoorRows
import Derived.SliceStrings
import Derived.Lib.SmallJoins
import Derived.Carry
namespace Go.Proofs.YthjdopnoophigaaGreatDoor

section
open Go.RowKit Go.PlainAid
set_option maxHeartbeats 8000000 in
set_option maxRecDepth 100000 in
theorem refSameRecords_eq (L : List Rec) (u v : Value) (w : World) (hu : RL u L w) (hv : RL v L w) (hr : ∀ r : Rec, sameRB r r = true) :
    Calls Tryz.prog 20 #[u, v] w fun e w' => e = .returned (.bool true) ∧ Below w.heap.size w w' := by
  have HU := Lib.hid hu
  have HV := Lib.hid hv
  have HRr := Lib.hid hr
  obtain ⟨a, ca, rfl, hc1, hc2⟩ := hu.length
  obtain ⟨b, cb, rfl, -, -⟩ := hv.length
  obtain ⟨n, hn⟩ : ∃ n, L.length = n := ⟨_, rfl⟩
  rw [hn] at HU HV hc1 ⊢
  have hnb : n ≤ 9223372036854775807 := by unfold maxLen at hc2; omega
  have HN := Lib.hid hn
  clear hu hv hn hr hc1 hc2
  go_enter Tryz.func20, Tryz.ntmps20
  go_wp2
  go_loopw [5] (fun i wr => ∃ k : Nat, i = .int .i64 (k : Int) ∧ k ≤ n ∧ RowKit.Hid (Below w.heap.size w wr)) (fun i _ => n - (intOf i).toNat)
  case atStart => exact ⟨0, rfl, Nat.zero_le _, Below.refl _ _⟩
  case round =>
    obtain ⟨k, rfl, hk, HB⟩ := hrel
    by_cases hkn : k < n
    · have i1 : (0 : Int) ≤ (k : Int) := by omega
      have i2 : (k : Int) < (n : Int) := by omega
      obtain ⟨g, o, ca', x, he, hg, c0, c1, c2, c3, c4, hq⟩ := (HU.out.after HB.out).at k (by rw [HN.out]; exact hkn)
      obtain ⟨ha, -, hcp⟩ := Value.slice.inj he
      subst ha hcp
      obtain ⟨g2, o2, cb', y, he2, hg2, d0, d1, d2, d3, d4, hq2⟩ := (HV.out.after HB.out).at k (by rw [HN.out]; exact hkn)
      obtain ⟨hb, -, hcp2⟩ := Value.slice.inj he2
      subst hb hcp2
      obtain ⟨r, hre⟩ : ∃ r, L.getD k rec0 = r := ⟨_, rfl⟩
      rw [hre] at c0 c1 c2 c3 hq d0 d1 d2 d3 hq2
      have cS := fun W h1 h2 => refSame08_any r r x y W h1 h2 true (HRr.out r)
      obtain ⟨ua, uc, rfl, -, -⟩ := hq.length
      obtain ⟨va, vc, rfl, -, -⟩ := hq2.length
      obtain ⟨ul, hul⟩ : ∃ m, r.fields.length = m := ⟨_, rfl⟩
      rw [hul] at hq hq2 c4 d4 cS
      unfold RV at cS
      have H1 : RowKit.Hid (∀ W, Below wr.heap.size wr W → (W.cell? ⟨g, o + k * 5, none⟩ = some (.int .i64 r.id) ∧ W.cell? ⟨g, o + k * 5 + 1, none⟩ = some (.int .i64 r.ver) ∧ W.cell? ⟨g, o + k * 5 + 2, none⟩ = some (.int .i64 r.kind) ∧ W.cell? ⟨g, o + k * 5 + 3, none⟩ = some (.string (S r.lang)) ∧ W.cell? ⟨g, o + k * 5 + 4, none⟩ = some (.slice ua ul uc)) ∧ FL (.slice ua ul uc) r.fields W) := fun W hW =>
        ⟨⟨(hW.cell (p := ⟨g, o + k * 5, none⟩) hg).trans c0, (hW.cell (p := ⟨g, o + k * 5 + 1, none⟩) hg).trans c1, (hW.cell (p := ⟨g, o + k * 5 + 2, none⟩) hg).trans c2, (hW.cell (p := ⟨g, o + k * 5 + 3, none⟩) hg).trans c3, (hW.cell (p := ⟨g, o + k * 5 + 4, none⟩) hg).trans c4⟩, hq.after hW⟩
      have H2 : RowKit.Hid (∀ W, Below wr.heap.size wr W → (W.cell? ⟨g2, o2 + k * 5, none⟩ = some (.int .i64 r.id) ∧ W.cell? ⟨g2, o2 + k * 5 + 1, none⟩ = some (.int .i64 r.ver) ∧ W.cell? ⟨g2, o2 + k * 5 + 2, none⟩ = some (.int .i64 r.kind) ∧ W.cell? ⟨g2, o2 + k * 5 + 3, none⟩ = some (.string (S r.lang)) ∧ W.cell? ⟨g2, o2 + k * 5 + 4, none⟩ = some (.slice va ul vc)) ∧ FL (.slice va ul vc) r.fields W) := fun W hW =>
        ⟨⟨(hW.cell (p := ⟨g2, o2 + k * 5, none⟩) hg2).trans d0, (hW.cell (p := ⟨g2, o2 + k * 5 + 1, none⟩) hg2).trans d1, (hW.cell (p := ⟨g2, o2 + k * 5 + 2, none⟩) hg2).trans d2, (hW.cell (p := ⟨g2, o2 + k * 5 + 3, none⟩) hg2).trans d3, (hW.cell (p := ⟨g2, o2 + k * 5 + 4, none⟩) hg2).trans d4⟩, hq2.after hW⟩
      replace cS := Lib.hid cS
      clear he he2 hre hul c0 c1 c2 c3 c4 d0 d1 d2 d3 d4 hq hq2 hg hg2
      go_upto_region 6 with fail
      apply wp_region_rel (R := fun u v => Below u.heap.size u v) (V := [SPR.eq _ (.slice (some ⟨g, o, none⟩) n ca), SPR.eq _ (.int .i64 (k : Int)), SPR.eq _ (.pointer (some ⟨g, o + k * 5, none⟩)), SPR.eq _ (.agg #[.int .i64 r.id, .int .i64 r.ver, .int .i64 r.kind, .string (S r.lang), .slice ua ul uc]), SPR.eq _ (.slice (some ⟨g2, o2, none⟩) n cb), SPR.eq _ (.int .i64 (k : Int)), SPR.eq _ (.pointer (some ⟨g2, o2 + k * 5, none⟩)), SPR.eq _ (.agg #[.int .i64 r.id, .int .i64 r.ver, .int .i64 r.kind, .string (S r.lang), .slice va ul vc]), SPR.eq _ (.bool true), SPR.eq _ (.bool false)])
      case htrans => exact fun _ _ _ h k => h.trans (k.mono h.size)
      case hdrew => exact (Below.refl _ _).drew
      case hm => kernel_rfl
      case hd => kernel_rfl
      case hb => kernel_rfl
      case hA =>
        intro vs
        simp only [puts, Act.put, List.setIfInBounds_toArray, List.set_cons_zero, List.set_cons_succ]
        exact rfl
      case hob =>
        refine ObsR.cons _ _ _ _ _ _ _ ?o0 (ObsR.cons _ _ _ _ _ _ _ ?o1 (ObsR.cons _ _ _ _ _ _ _ ?o2 (ObsR.cons _ _ _ _ _ _ _ ?o3 (ObsR.cons _ _ _ _ _ _ _ ?o4 (ObsR.cons _ _ _ _ _ _ _ ?o5 (ObsR.cons _ _ _ _ _ _ _ ?o6 (ObsR.cons _ _ _ _ _ _ _ ?o7 (ObsR.cons _ _ _ _ _ _ _ ?o8 (ObsR.cons _ _ _ _ _ _ _ ?o9 (ObsR.nil _ _ _ _ _ _ _))))))))))
        case o0 =>
          intro vs W hw hd K hK
          go_simp
          exact hK.out _ _ rfl (Below.refl _ _)
        case o1 =>
          intro vs W hw hd K hK
          go_simp
          exact hK.out _ _ rfl (Below.refl _ _)
        case o2 =>
          intro vs W hw hd K hK
          have h0 : vs 0 = .slice (some ⟨g, o, none⟩) n ca := hd 0 (by kernel_rfl)
          have h1 : vs 1 = .int .i64 (k : Int) := hd 1 (by kernel_rfl)
          simp only [Nat.reduceAdd, h0, h1] at hK ⊢
          go_simp
          exact hK.out _ _ rfl (Below.refl _ _)
        case o3 =>
          intro vs W hw hd K hK
          have h2 : vs 2 = .pointer (some ⟨g, o + k * 5, none⟩) := hd 2 (by kernel_rfl)
          obtain ⟨⟨k0, k1, k2, k3, k4⟩, -⟩ := H1.out W hw
          simp only [Nat.reduceAdd, h2] at hK ⊢
          go_simp
          exact hK.out _ _ rfl (Below.refl _ _)
        case o4 =>
          intro vs W hw hd K hK
          go_simp
          exact hK.out _ _ rfl (Below.refl _ _)
        case o5 =>
          intro vs W hw hd K hK
          go_simp
          exact hK.out _ _ rfl (Below.refl _ _)
        case o6 =>
          intro vs W hw hd K hK
          have h4 : vs 4 = .slice (some ⟨g2, o2, none⟩) n cb := hd 4 (by kernel_rfl)
          have h5 : vs 5 = .int .i64 (k : Int) := hd 5 (by kernel_rfl)
          simp only [Nat.reduceAdd, h4, h5] at hK ⊢
          go_simp
          exact hK.out _ _ rfl (Below.refl _ _)
        case o7 =>
          intro vs W hw hd K hK
          have h6 : vs 6 = .pointer (some ⟨g2, o2 + k * 5, none⟩) := hd 6 (by kernel_rfl)
          obtain ⟨⟨k0, k1, k2, k3, k4⟩, -⟩ := H2.out W hw
          simp only [Nat.reduceAdd, h6] at hK ⊢
          go_simp
          exact hK.out _ _ rfl (Below.refl _ _)
        case o8 =>
          intro vs W hw hd K hK
          have h3 : vs 3 = .agg #[.int .i64 r.id, .int .i64 r.ver, .int .i64 r.kind, .string (S r.lang), .slice ua ul uc] := hd 3 (by kernel_rfl)
          have h7 : vs 7 = .agg #[.int .i64 r.id, .int .i64 r.ver, .int .i64 r.kind, .string (S r.lang), .slice va ul vc] := hd 7 (by kernel_rfl)
          simp only [Nat.reduceAdd, h3, h7] at hK ⊢
          go_simp
          refine (cS.out W (H1.out W hw).2 (H2.out W hw).2).mono ?_
          rintro e W' ⟨rfl, hb'⟩
          exact hK.out _ _ rfl hb'
        case o9 =>
          intro vs W hw hd K hK
          have h8 : vs 8 = .bool true := hd 8 (by kernel_rfl)
          simp only [Nat.reduceAdd, h8] at hK ⊢
          go_simp
          exact hK.out _ _ rfl (Below.refl _ _)
      case hfin =>
        intro vs W hw hv'
        have e9 : vs 9 = .bool false := hv' 9 (by decide)
        simp only [Nat.reduceAdd, e9]
        have HB2 := Lib.hid (HB.out.trans (hw.mono HB.out.size))
        clear hv' hw e9
        go_wp2
        go_roundw
        case rel => exact ⟨k + 1, by go_num, by omega, HB2⟩
        case measure => simp [intOf]; omega
    · obtain rfl : k = n := by omega
      go_wp2
      go_ret
      exact ⟨rfl, HB.out⟩

set_option maxHeartbeats 16000000 in
set_option maxRecDepth 100000 in
theorem refSmallRecords_any (L : List Rec) (v : Value) (m : Nat) (hm6 : m ≤ 1000000) (w : World) (hv : RL v L w) :
    Calls Tryz.prog 14 #[v, .int .i64 (m : Int)] w fun e w' => ∃ b, e = .returned (.bool b) ∧ Below w.heap.size w w' ∧ (b = true → L.length ≤ m ∧ ∀ i, i < L.length → smallRB (L.getD i rec0) = true) := by
  obtain ⟨Q, hQ⟩ : ∃ Q, (fun (e : Ending) (w' : World) => ∃ b, e = .returned (.bool b) ∧ Below w.heap.size w w' ∧ (b = true → L.length ≤ m ∧ ∀ i, i < L.length → smallRB (L.getD i rec0) = true)) = Q := ⟨_, rfl⟩
  rw [hQ]
  have HQ : RowKit.Hid (∀ e w', (∃ b, e = .returned (.bool b) ∧ Below w.heap.size w w' ∧ (b = true → L.length ≤ m ∧ ∀ i, i < L.length → smallRB (L.getD i rec0) = true)) → Q e w') := by rw [← hQ]; exact fun _ _ h => h
  clear hQ
  have HV := Lib.hid hv
  obtain ⟨a, cap, rfl, -, -⟩ := hv.length
  obtain ⟨n, hn⟩ : ∃ n, L.length = n := ⟨_, rfl⟩
  rw [hn] at HV ⊢
  have HN := Lib.hid hn
  clear hv hn
  by_cases h8 : m < n
  · have t1 : decide ((m : Int) < (n : Int)) = true := decide_eq_true (by omega)
    have t1' : decide (m < n) = true := decide_eq_true h8
    clear h8
    go_enter Tryz.func14, Tryz.ntmps14
    go_wp2
    first | exact HQ.out _ _ ⟨_, rfl, Below.refl _ _, fun h => by cases h⟩ | (go_ret; exact HQ.out _ _ ⟨_, rfl, Below.refl _ _, fun h => by cases h⟩)
  · have t1 : decide ((m : Int) < (n : Int)) = false := decide_eq_false (by omega)
    have t1' : decide (m < n) = false := decide_eq_false h8
    have hn8 : n ≤ m := by omega
    clear h8
    go_enter Tryz.func14, Tryz.ntmps14
    go_wp2
    go_loopw [5] (fun i wr => ∃ k : Nat, i = .int .i64 (k : Int) ∧ k ≤ n ∧ RowKit.Hid (∀ i, i < k → smallRB (L.getD i rec0) = true) ∧ RowKit.Hid (Below w.heap.size w wr)) (fun i _ => n - (intOf i).toNat)
    case atStart => exact ⟨0, rfl, Nat.zero_le _, (fun i hi => by omega), Below.refl _ _⟩
    case round =>
      obtain ⟨k, rfl, hk, HJ, HB⟩ := hrel
      by_cases hkn : k < n
      · have i1 : (0 : Int) ≤ (k : Int) := by omega
        have i2 : (k : Int) < (n : Int) := by omega
        obtain ⟨g, o, cap', u, he, hg, c0, c1, c2, c3, c4, hq⟩ := (HV.out.after HB.out).at k (by rw [HN.out]; exact hkn)
        obtain ⟨ha, -, hcp⟩ := Value.slice.inj he
        subst ha hcp
        obtain ⟨r, hre⟩ : ∃ r, L.getD k rec0 = r := ⟨_, rfl⟩
        rw [hre] at c0 c1 c2 c3 hq
        have HRe := Lib.hid hre
        obtain ⟨b, hb⟩ : ∃ b, smallRB r = b := ⟨_, rfl⟩
        have cS := refSmall_any r u wr hq b hb
        have HSb := Lib.hid hb
        obtain ⟨ua, uc, hue, -, -⟩ := hq.length
        obtain ⟨ul, hul⟩ : ∃ m, r.fields.length = m := ⟨_, rfl⟩
        rw [hul] at hue
        subst hue
        unfold RV at cS
        have CS := Lib.hid cS
        clear he hre hq hul cS hb
        go_wp2_with fail
        refine CS.out.mono ?_
        rintro e w2 ⟨rfl, hb2⟩
        have HB2 : RowKit.Hid (Below w.heap.size w w2) := HB.out.trans (hb2.mono HB.out.size)
        have d4 := (hb2.cell (p := ⟨g, o + k * 5 + 4, none⟩) hg).trans c4
        clear hb2 c0 c1 c2 c3 c4 CS
        cases b with
        | false =>
          clear HSb
          go_wp2
          first | exact HQ.out _ _ ⟨_, rfl, HB2.out, fun h => by cases h⟩ | (go_ret; exact HQ.out _ _ ⟨_, rfl, HB2.out, fun h => by cases h⟩)
        | true =>
          have HJ2 : RowKit.Hid (∀ i, i < k + 1 → smallRB (L.getD i rec0) = true) := by
            intro i hi
            rcases Nat.lt_or_ge i k with h | h
            · exact HJ.out i h
            · rw [show i = k by omega, HRe.out]
              exact HSb.out
          clear HSb
          go_wp2
          go_roundw
          case rel => exact ⟨k + 1, by go_num, by omega, HJ2, HB2⟩
          case measure => simp [intOf]; omega
      · obtain rfl : k = n := by omega
        have HS : RowKit.Hid (L.length ≤ m ∧ ∀ i, i < L.length → smallRB (L.getD i rec0) = true) := by
          unfold RowKit.Hid
          rw [HN.out]
          exact ⟨hn8, HJ.out⟩
        go_wp2
        first | exact HQ.out _ _ ⟨_, rfl, HB.out, fun _ => HS.out⟩ | (go_ret; exact HQ.out _ _ ⟨_, rfl, HB.out, fun _ => HS.out⟩)
end

section
open Go.RowKit Go.PlainAid
theorem small_rec (r : Rec) (h : smallRB r = true) : r.fields.length ≤ 70 ∧ ∀ f ∈ r.fields, f.subs.length ≤ 20 ∧ ∀ s ∈ f.subs, s.2.length ≤ 300 := by
  unfold smallRB at h
  rw [Bool.and_eq_true, decide_eq_true_iff, List.all_eq_true] at h
  refine ⟨h.1, fun f hf => ?_⟩
  have := h.2 f hf
  unfold smallFB at this
  rw [Bool.and_eq_true, decide_eq_true_iff, List.all_eq_true] at this
  exact ⟨this.1, fun s hs => of_decide_eq_true (this.2 s hs)⟩
theorem small_list {L : List Rec} (h : ∀ i, i < L.length → smallRB (L.getD i rec0) = true) : ∀ r ∈ L, r.fields.length ≤ 70 ∧ ∀ f ∈ r.fields, f.subs.length ≤ 20 ∧ ∀ s ∈ f.subs, s.2.length ≤ 300 := by
  intro r hr
  obtain ⟨i, hi, rfl⟩ := List.getElem_of_mem hr
  have := h i hi
  rw [List.getD_eq_getElem?_getD, List.getElem?_eq_getElem hi] at this
  exact small_rec _ this
theorem moves_plain (L : List Rec) (a b : Int) (ha : 0 < a) (hb : 0 < b) (hab : a ≠ b) : usesX (L.map (mapRec (turnX a b))) a = [] ∧ usesX (L.map (mapRec (turnX a b))) b = (usesX L a).foldl insU (usesX L b) := by
  rw [uses_turn, uses_turn]
  exact ⟨turn_none _ a b ha hab, turn_both _ a b ha hb hab⟩

set_option maxHeartbeats 16000000 in
set_option maxRecDepth 100000 in
theorem lawMoves14_any (L : List Rec) (u : Value) (a b : UInt8) (w : World) (hE : Env w) (hu : RL u L w) :
    Calls Tryz.prog 6 #[u, .int .u8 (a.toNat : Int), .int .u8 (b.toNat : Int)] w fun e w' => e = .returned (.bool true) ∧ Below w.heap.size w w' := by
  have HE := Lib.hid (fun (W : World) (h : Below w.heap.size w W) => hE.after h)
  have HU := Lib.hid (fun (W : World) (h : Below w.heap.size w W) => hu.after h)
  have cAl := Lib.hid (fun (W : World) (h : Below w.heap.size w W) => lalive14_any W (hE.after h))
  have cS := Lib.hid (refSmallRecords_any L u 20 (by decide) w hu)
  obtain ⟨ua, uc, rfl, hc, hmax⟩ := hu.length
  clear hE hu
  generalize hn : L.length = n at *
  have HN := Lib.hid hn
  clear hn
  have ha256 : a.toNat < 256 := a.toNat_lt
  have hb256 : b.toNat < 256 := b.toNat_lt
  generalize a.toNat = x at *
  generalize b.toNat = y at *
  go_enter Tryz.func6, Tryz.ntmps6
  go_wp2_with fail
  refine cS.out.mono ?_
  rintro e w1 ⟨sm, rfl, hb1, hsm⟩
  have B1 := Lib.hid hb1
  have HSm := Lib.hid hsm
  have c1 := Lib.hid (cAl.out w1 hb1)
  clear hb1 hsm cS
  have hdead : ∀ W, Below w.heap.size w W → Calls Tryz.prog 9 #[] W fun e w' => e = .returned (.bool true) ∧ Below W.heap.size W w' := cAl.out
  by_cases hgood : sm = true ∧ x ≠ 0 ∧ y ≠ 0 ∧ x ≠ y
  · obtain ⟨rfl, hx, hy, hxy⟩ := hgood
    have t1 : (((x : Nat) : Int) == 0) = false := by simpa using hx
    have t2 : (((y : Nat) : Int) == 0) = false := by simpa using hy
    have t3 : (((x : Nat) : Int) == ((y : Nat) : Int)) = false := by simp; omega
    obtain ⟨hn20, hsl⟩ := HSm.out rfl
    have hsz := small_list (L := L) (fun i hi => hsl i (by rw [HN.out] at hi; exact hi))
    obtain ⟨hm1, hm2⟩ := moves_plain L (x : Int) (y : Int) (by omega) (by omega) (by omega)
    have HM1 := Lib.hid hm1
    have HM2 := Lib.hid hm2
    obtain ⟨M, hM⟩ : ∃ M, L.map (mapRec (turnX (x : Int) (y : Int))) = M := ⟨_, rfl⟩
    have hMl : M.length = n := by rw [← hM, List.length_map]; exact HN.out
    have hMf : ∀ r ∈ M, r.fields.length ≤ 100000 := by
      intro r hr
      rw [← hM] at hr
      obtain ⟨r0, hr0, rfl⟩ := List.mem_map.1 hr
      show (r0.fields.map _).length ≤ _
      rw [List.length_map]
      have := (hsz r0 hr0).1
      omega
    have cT := Lib.hid (fun (W : World) (h : Below w.heap.size w W) => pTurn_any (x : Int) (y : Int) L _ W (HU.out W h) (by rw [HN.out]; omega) (fun r hr => ⟨by have := (hsz r hr).1; omega, fun f hf => by have := ((hsz r hr).2 f hf).1; omega⟩))
    have cU := Lib.hid (fun (id : Int) (W : World) (h : Below w.heap.size w W) => pUses_any L _ id W (HU.out W h) (by rw [HN.out]; omega) (fun r hr => by have := (hsz r hr).1; omega))
    have cM := Lib.hid (fun (v : Value) (id : Int) (W : World) (h : RL v M W) => pUses_any M v id W h (by rw [hMl]; omega) hMf)
    have HMl := Lib.hid hMl
    have HUa : RowKit.Hid ((usesX L (x : Int)).length ≤ 20) := by have := usesX_len L (x : Int); rw [HN.out] at this; unfold RowKit.Hid; omega
    have HUb : RowKit.Hid ((usesX L (y : Int)).length ≤ 20) := by have := usesX_len L (y : Int); rw [HN.out] at this; unfold RowKit.Hid; omega
    rw [hM] at HM1 HM2 cT
    have cT1 := Lib.hid (cT.out w1 B1.out)
    clear hx hy hxy hm1 hm2 hM hMl hMf hsz hsl hdead c1 cT HSm cAl
    have cAl := Lib.hid (fun (W : World) (h : Below w.heap.size w W) => lalive14_any W (HE.out W h))
    obtain ⟨UA, hUA⟩ : ∃ UA, usesX L (x : Int) = UA := ⟨_, rfl⟩
    obtain ⟨UB, hUB⟩ : ∃ UB, usesX L (y : Int) = UB := ⟨_, rfl⟩
    rw [hUA] at HUa HM2
    rw [hUB] at HUb HM2
    have HEA := Lib.hid hUA
    have HEB := Lib.hid hUB
    clear hUA hUB
    go_wp2_with fail
    refine cT1.out.mono ?_
    rintro e w2 ⟨vm, rfl, hnm, hb⟩
    have hrl := hnm.here
    have B2 := Lib.hid (B1.out.trans (hb.mono B1.out.size))
    have RM2 := Lib.hid hrl
    have h3 := cU.out (y : Int) w2 B2.out
    rw [HEB.out] at h3
    have k3 := Lib.hid h3
    obtain ⟨am, cm, hvm, -, -⟩ := hrl.length
    rw [HMl.out] at hvm
    subst hvm
    clear hnm hrl hb cT1 B1 h3
    go_wp2_with fail
    refine k3.out.mono ?_
    rintro e w3 ⟨vb, rfl, hib, hb⟩
    have B3 := Lib.hid (B2.out.trans (hb.mono B2.out.size))
    have RM3 := Lib.hid (RM2.out.after hb)
    have IB3 := Lib.hid hib
    have h4 := cU.out (x : Int) w3 B3.out
    rw [HEA.out] at h4
    have k4 := Lib.hid h4
    clear hib hb k3 B2 RM2 h4
    go_wp2_with fail
    refine k4.out.mono ?_
    rintro e w4 ⟨va, rfl, hia, hb⟩
    have B4 := Lib.hid (B3.out.trans (hb.mono B3.out.size))
    have RM4 := Lib.hid (RM3.out.after hb)
    have IB4 := Lib.hid (IB3.out.after hb)
    have IA4 := Lib.hid (fun (W : World) (h : Below w4.heap.size w4 W) => hia.after h)
    obtain ⟨aa, ca, hva, hca, -⟩ := hia
    subst hva
    clear hb k4 B3 RM3 IB3
    obtain ⟨m, hm⟩ : ∃ m, UA.length = m := ⟨_, rfl⟩
    have HMm := Lib.hid hm
    have hm20 : m ≤ 20 := by rw [← hm]; exact HUa.out
    rw [hm] at hca IA4 ⊢
    have hF0 : RowKit.Hid ((UA.take 0).foldl insU UB = UB) := rfl
    clear hm cU
    go_wp2
    go_loopw [10, 45] (fun s10 s45 wr => ∃ k : Nat, s45 = .int .i64 (k : Int) ∧ k ≤ m ∧ RowKit.Hid (IL s10 ((UA.take k).foldl insU UB) wr) ∧ RowKit.Hid (Below w4.heap.size w4 wr)) (fun _ s45 _ => m - (intOf s45).toNat)
    case atStart => exact ⟨0, rfl, Nat.zero_le _, IB4.out, Below.refl _ _⟩
    case round =>
      obtain ⟨k, rfl, hk, HI, HB⟩ := hrel
      clear IB4
      by_cases hkm : k < m
      · have i1 : (0 : Int) ≤ (k : Int) := by omega
        have i2 : (k : Int) < (m : Int) := by omega
        obtain ⟨g, o, cp, he, hg, c1⟩ := (IA4.out wr HB.out).at14 k (by rw [HMm.out]; exact hkm)
        obtain ⟨rfl, -, -⟩ := Value.slice.inj he
        have hst : (UA.take (k + 1)).foldl insU UB = insU ((UA.take k).foldl insU UB) (UA.getD k 0) := by
          rw [take_snocI UA k (by rw [HMm.out]; exact hkm), List.foldl_append]
          rfl
        have hlen : ((UA.take k).foldl insU UB).length ≤ 1000 := by
          have h1 := fold_ins_len (UA.take k) UB
          have h2 := HUb.out
          rw [List.length_take] at h1
          omega
        obtain ⟨N, hN⟩ : ∃ N, (UA.take k).foldl insU UB = N := ⟨_, rfl⟩
        rw [hN] at hst hlen HI
        have HSt := Lib.hid hst
        have k5 := Lib.hid (refInserted_any _ N (UA.getD k 0) wr HI.out (by omega))
        clear he hg hst hN hlen
        generalize UA.getD k 0 = z at *
        go_wp2_with fail
        refine k5.out.mono ?_
        rintro e w5 ⟨v5, rfl, hi5, hb⟩
        have B5 := Lib.hid (HB.out.trans (hb.mono HB.out.size))
        have I5 := Lib.hid hi5
        clear hb hi5 k5 HI HB c1
        go_wp2
        go_roundw
        case rel => exact ⟨k + 1, by go_num, by omega, by rw [HSt.out]; exact I5.out, B5.out⟩
        case measure => simp [intOf]; omega
      · obtain rfl : k = m := by omega
        have hT : UA.take k = UA := by rw [← HMm.out, List.take_length]
        rw [hT, ← HM2.out] at HI
        have Bw := Lib.hid (B4.out.trans (HB.out.mono B4.out.size))
        have RMw := Lib.hid (RM4.out.after HB.out)
        have h6 := cM.out _ (x : Int) wr RMw.out
        rw [HM1.out] at h6
        have k6 := Lib.hid h6
        have tl : ((n : Int) == (n : Int)) = true := by simp
        have HWl : RowKit.Hid ((usesX M (y : Int)).length ≤ 1000) := by
          rw [HM2.out]
          have h1 := fold_ins_len UA UB
          have h2 := HUb.out
          have h3 := HUa.out
          unfold RowKit.Hid
          omega
        clear h6 hT HB B4 RM4 IA4 hF0
        go_wp2_with fail
        refine k6.out.mono ?_
        rintro e w6 ⟨v6, rfl, hi6, hb⟩
        obtain ⟨a6, c6, hv6, -, -⟩ := hi6
        change v6 = .slice a6 0 c6 at hv6
        subst hv6
        have B6 := Lib.hid (Bw.out.trans (hb.mono Bw.out.size))
        have RM6 := Lib.hid (RMw.out.after hb)
        have I6 := Lib.hid (HI.out.after hb)
        have k7 := Lib.hid (cM.out _ (y : Int) w6 RM6.out)
        clear hb k6 Bw RMw HI
        go_wp2_with fail
        refine k7.out.mono ?_
        rintro e w7 ⟨v7, rfl, hi7, hb⟩
        have B7 := Lib.hid (B6.out.trans (hb.mono B6.out.size))
        have k8 := Lib.hid (lsame14_any _ v7 _ w7 hi7 (I6.out.after hb) (by have := HWl.out; omega))
        clear hb hi7 k7 B6 RM6 I6
        go_wp2_with fail
        refine k8.out.mono ?_
        rintro e w8 ⟨rfl, hb⟩
        have B8 := Lib.hid (B7.out.trans (hb.mono B7.out.size))
        have k9 := Lib.hid (cAl.out w8 B8.out)
        clear hb k8 B7
        go_wp2_with fail
        refine k9.out.mono ?_
        rintro e w9 ⟨rfl, hb⟩
        have B9 := Lib.hid (B8.out.trans (hb.mono B8.out.size))
        clear hb k9 B8
        go_wp2
        first | exact ⟨rfl, B9.out⟩ | (go_ret; exact ⟨rfl, B9.out⟩)
  · clear cAl HU HE hdead
    cases sm
    · clear hgood
      go_wp2_with fail
      refine c1.out.mono ?_
      rintro e w2 ⟨rfl, hb⟩
      have B2 := Lib.hid (B1.out.trans (hb.mono B1.out.size))
      clear hb c1
      go_wp2
      first | exact ⟨rfl, B2.out⟩ | (go_ret; exact ⟨rfl, B2.out⟩)
    · by_cases hx : x = 0
      · have t1 : (((x : Nat) : Int) == 0) = true := by simpa using hx
        clear hgood hx
        go_wp2_with fail
        refine c1.out.mono ?_
        rintro e w2 ⟨rfl, hb⟩
        have B2 := Lib.hid (B1.out.trans (hb.mono B1.out.size))
        clear hb c1
        go_wp2
        first | exact ⟨rfl, B2.out⟩ | (go_ret; exact ⟨rfl, B2.out⟩)
      have t1 : (((x : Nat) : Int) == 0) = false := by simpa using hx
      by_cases hy : y = 0
      · have t2 : (((y : Nat) : Int) == 0) = true := by simpa using hy
        clear hgood hx hy
        go_wp2_with fail
        refine c1.out.mono ?_
        rintro e w2 ⟨rfl, hb⟩
        have B2 := Lib.hid (B1.out.trans (hb.mono B1.out.size))
        clear hb c1
        go_wp2
        first | exact ⟨rfl, B2.out⟩ | (go_ret; exact ⟨rfl, B2.out⟩)
      have t2 : (((y : Nat) : Int) == 0) = false := by simpa using hy
      have t3 : (((x : Nat) : Int) == ((y : Nat) : Int)) = true := by
        have : x = y := by
          rcases Nat.decEq x y with h | h
          · exact absurd ⟨rfl, hx, hy, h⟩ hgood
          · exact h
        simp [this]
      clear hgood hx hy
      go_wp2_with fail
      refine c1.out.mono ?_
      rintro e w2 ⟨rfl, hb⟩
      have B2 := Lib.hid (B1.out.trans (hb.mono B1.out.size))
      clear hb c1
      go_wp2
      first | exact ⟨rfl, B2.out⟩ | (go_ret; exact ⟨rfl, B2.out⟩)
theorem lawMoves_any (u : Value) (L : List Rec) (a b : UInt8) (w : World) (hE : Env w) (hu : RL u L w) :
    Calls Tryz.prog 6 #[u, .int .u8 (a.toNat : Int), .int .u8 (b.toNat : Int)] w fun e w' => e = .returned (.bool true) ∧ Below w.heap.size w w' :=
  lawMoves14_any L u a b w hE hu
end

section
theorem lift_shaped {H : Type} {enc : TypeId × Value → H} {a : Assume} {C : Checked} {os : Os} {f : FuncId} {fn : Func} {s : ChangeSpec} {apart fresh handsOn again : Bool} {X : World → Array Value → Prop}
    (hX : ∀ (w w' : World) (args : Array Value), w.heap = w'.heap → X w args → X w' args)
    (own : ownKnob C.prog.godebug = none) (started : os.Started) (noInit : C.prog.inits.idxOf? f = none) (hfn : C.prog.funcs[f]? = some fn)
    (witness : ∃ (w : World) (tape : Tape) (i : Input), w.os = os ∧ (w.forCall tape i).Shaped C.prog ∧ i.vars = [] ∧ Input.okWide C.prog (w.forCall tape i) .any w.heap.size f i ∧
      ((s.pre enc C.prog fn [] apart (w.forCall tape i).memory i.args ∧ X (w.forCall tape i).memory i.args) ∧ sizedMet enc C.prog fn (OpenSpec.ofChange s) apart (w.forCall tape i).memory i.args) ∧ a.holds C.prog (lone (Frame.enter C.prog f i.args .normal) [] (w.forCall tape i)))
    (contract : ∀ (W : World) (base : Nat) (args : Array Value) (ds gs : List (DataW H)) (before : List MemPlace),
      (∀ (j : Nat) t v, fn.params[j]? = some t → args[j]? = some v → Value.okWide C.prog W .any base t v) →
      DataW.Whole enc C.prog fn.params.toList s.vars apart W args.toList ds gs before → X W args → W.ShapedOpen C.prog →
      Calls C.prog f args W fun e W' => ∃ v, e = .returned v ∧ s.post enc C.prog fn apart fresh handsOn again W args v W') :
    ReturnsInHanded a C os f .any (fun w args => (s.pre enc C.prog fn [] apart w args ∧ X w args) ∧ sizedMet enc C.prog fn (OpenSpec.ofChange s) apart w args) (s.post enc C.prog fn apart fresh handsOn again) := by
  refine returnsInHanded_of_calls own started noInit witness ?_
  intro w tape i _ hsh _ hok hpre _
  obtain ⟨_, _, _, fn2, hfn2, _, _, _, _, hval⟩ := hok
  obtain rfl : fn2 = fn := Option.some.inj (hfn2.symm.trans hfn)
  obtain ⟨⟨⟨ds, gs, before, hw, _⟩, hx⟩, _⟩ := hpre
  refine (contract (w.forCall tape i) w.heap.size i.args ds gs before hval (DataW.Whole.of_heap (by rfl) hw) (hX _ _ _ (by rfl) hx) hsh).mono fun e W' hh => ?_
  obtain ⟨v, rfl, hp⟩ := hh
  exact ChangeSpec.post_blind hp
end

section
open Go.RowKit Go.Lib Go.ChangeShapes Go.WideShapes
theorem laidOut : laidOutB Tryz.prog = true := by kernel_rfl
theorem cells_string : Tryz.prog.cellsOf 9 = 1 := by kernel_rfl
theorem cells_byte : Tryz.prog.cellsOf 5 = 1 := by kernel_rfl
theorem cells_int1 : Tryz.prog.cellsOf 3 = 1 := by kernel_rfl
theorem cells_slice1 : Tryz.prog.cellsOf 22 = 1 := by kernel_rfl
theorem cells_sub : Tryz.prog.cellsOf 48 = 2 := by kernel_rfl

set_option maxRecDepth 100000 in
/-- A subfield's two cells. -/
theorem open_sub {H : Type} {enc : TypeId × Value → H} {W : World} {fuel : Nat} {cs : List Value} {x : DataW H × List MemPlace}
    (hf : DataW.trod enc Tryz.prog W 0 (fun _ => true) true fuel 48 cs = some x) : ∃ s : Sub, cs.take 2 = [.int .u8 (s.1.toNat : Int), .string (S s.2)] := by
  obtain ⟨xs, n, _, _, _, hxl, hfl⟩ := DataW.trod_struct Tryz.underlying48 hf
  have key : ∀ j, j < 2 → ∃ y, xs[j]? = some y := by
    intro j hj
    have hxl2 : xs.length = 2 := hxl.trans rfl
    exact ⟨xs[j]'(by omega), List.getElem?_eq_getElem (by omega)⟩
  have f0 := hfl 0 _ rfl
  have f1 := hfl 1 _ rfl
  obtain ⟨y0, e0⟩ := key 0 (by decide)
  obtain ⟨y1, e1⟩ := key 1 (by decide)
  rw [e0] at f0
  rw [e1] at f1
  change DataW.trod enc Tryz.prog W 0 (fun _ => true) true n 5 ((cs.drop 0).take (Tryz.prog.cellsOf 5)) = some y0 at f0
  rw [cells_byte] at f0
  change DataW.trod enc Tryz.prog W 0 (fun _ => true) true n 9 ((cs.drop 1).take (Tryz.prog.cellsOf 9)) = some y1 at f1
  rw [cells_string] at f1
  obtain ⟨z, a0, _, hw⟩ := DataW.trod_int Tryz.underlying5 f0
  obtain ⟨s1, a1, _, _⟩ := DataW.trod_string Tryz.underlying9 f1
  have hz : 0 ≤ z ∧ z ≤ 255 := by simpa [Lit.wf, IntKind.min, IntKind.max, IntKind.signed, IntKind.bits] using hw
  refine ⟨(UInt8.ofNat z.toNat, s1.data.toList), ?_⟩
  have ez : ((UInt8.ofNat z.toNat).toNat : Int) = z := by
    rw [UInt8.toNat_ofNat']
    omega
  show cs.take 2 = [.int .u8 ((UInt8.ofNat z.toNat).toNat : Int), .string (S s1.data.toList)]
  rw [ez, show S s1.data.toList = s1 from rfl]
  match cs, a0, a1 with
  | [], a0, _ => simp at a0
  | [_], _, a1 => simp at a1
  | c0 :: c1 :: r, a0, a1 =>
    simp at a0 a1
    simp [a0, a1]

set_option maxRecDepth 100000 in
/-- A slice of subfields. -/
theorem open_ql {H : Type} {enc : TypeId × Value → H} {W : World} {c : Value} {fuel : Nat} {x : DataW H × List MemPlace}
    (hf : DataW.trod enc Tryz.prog W 0 (fun _ => true) true fuel 22 [c] = some x) : ∃ L : List Sub, QL c L W := by
  rcases DataW.trod_slice Tryz.underlying22 hf with ⟨hcs, _⟩ | ⟨a, len, cap, elems, rest, n, _, hcs, _, _, hl, hm, hlen, hel, _, _⟩
  · simp only [List.cons.injEq, and_true] at hcs
    subst hcs
    exact ⟨[], none, 0, rfl, Nat.le_refl _, Nat.zero_le _, fun _ => rfl, fun i hi => by cases hi⟩
  · simp only [List.cons.injEq, and_true] at hcs
    subst hcs
    obtain ⟨b, off, spot⟩ := a
    have each : ∀ i, i < len → ∃ s : Sub, W.cell? ((⟨b, off, spot⟩ : Addr).add (i * 2)) = some (.int .u8 (s.1.toNat : Int)) ∧ W.cell? (((⟨b, off, spot⟩ : Addr).add (i * 2)).add 1) = some (.string (S s.2)) := by
      intro i hi
      have h := hel i hi
      rw [cells_sub] at h
      have hsome : ∃ y, elems[i]? = some y := ⟨elems[i]'(by omega), List.getElem?_eq_getElem (by omega)⟩
      obtain ⟨y, hy⟩ := hsome
      rw [hy, Option.bind_eq_some_iff] at h
      obtain ⟨cs', hcs, hy'⟩ := h
      obtain ⟨_, hl2, hat⟩ := World.cells?_some hcs
      obtain ⟨s, hs⟩ := open_sub hy'
      rw [List.take_of_length_le (by omega)] at hs
      subst hs
      have a0 := hat 0 (by decide)
      have a1 := hat 1 (by decide)
      have e0 : ((⟨b, off, spot⟩ : Addr).add (i * 2)).add 0 = (⟨b, off, spot⟩ : Addr).add (i * 2) := by
        unfold Addr.add
        split <;> simp_all
      rw [e0] at a0
      exact ⟨s, a0, a1⟩
    obtain ⟨F, hF⟩ : ∃ F : Nat → Sub, ∀ i, i < len → W.cell? ((⟨b, off, spot⟩ : Addr).add (i * 2)) = some (.int .u8 ((F i).1.toNat : Int)) ∧ W.cell? (((⟨b, off, spot⟩ : Addr).add (i * 2)).add 1) = some (.string (S (F i).2)) :=
      ⟨fun i => if h : i < len then (each i h).choose else sub0, fun i hi => by
        have := (each i hi).choose_spec
        simp only [dif_pos hi]
        exact this⟩
    have hl2 : ((List.range len).map F).length = len := by simp
    refine ⟨(List.range len).map F, some ⟨b, off, spot⟩, cap, by rw [hl2], by omega, hm, (fun h => by cases h), fun i hi => ?_⟩
    rw [hl2] at hi
    have hspot : spot = none := by simpa [Addr.add] using World.cell?_spot (hF 0 (by omega)).1
    subst hspot
    have hg : ((List.range len).map F).getD i sub0 = F i := by
      rw [List.getD_eq_getElem?_getD, List.getElem?_map, List.getElem?_range hi]
      rfl
    obtain ⟨c0, c1⟩ := hF i hi
    have hadd : (⟨b, off, none⟩ : Addr).add (i * 2) = ⟨b, off + i * 2, none⟩ := by unfold Addr.add; split <;> simp_all
    have hadd2 : (⟨b, off + i * 2, none⟩ : Addr).add 1 = ⟨b, off + i * 2 + 1, none⟩ := by unfold Addr.add; split <;> simp_all
    rw [hadd] at c0 c1
    rw [hadd2] at c1
    refine ⟨b, off, rfl, ?_, by rw [hg]; exact c0, by rw [hg]; exact c1⟩
    rcases Nat.lt_or_ge b W.heap.size with hh | hh
    · exact hh
    · simp [World.cell?, Array.getElem?_eq_none hh] at c0

set_option maxRecDepth 100000 in
/-- A field. -/
theorem open_field {H : Type} {enc : TypeId × Value → H} {W : World} {base : Nat} {v : Value} {d : DataW H} {p : List MemPlace} (hv : Value.okWide Tryz.prog W .any base 24 v)
    (h : DataW.Trod enc Tryz.prog W 0 (fun _ => true) true 24 v d p) : ∃ (f : Fld) (u : Value), v = FV f u ∧ QL u f.subs W := by
  have hv2 : ∃ cs, v = .agg cs ∧ cs.size = Tryz.prog.cellsOf 24 := by
    unfold Value.okWide at hv
    rw [Tryz.underlying24] at hv
    obtain ⟨cs, h1, h2, _⟩ := hv
    exact ⟨cs, h1, h2⟩
  obtain ⟨cs, rfl, hsz⟩ := hv2
  have hsz4 : cs.size = 4 := hsz.trans (by kernel_rfl)
  obtain ⟨c0, c1, c2, c3, rfl⟩ : ∃ c0 c1 c2 c3, cs = #[c0, c1, c2, c3] := by
    obtain ⟨l⟩ := cs
    match l, hsz4 with
    | [c0, c1, c2, c3], _ => exact ⟨c0, c1, c2, c3, rfl⟩
  obtain ⟨fuel, hf⟩ := h
  obtain ⟨xs, n, _, _, _, hxl, hfl⟩ := DataW.trod_struct Tryz.underlying24 hf
  have key : ∀ j, j < 4 → ∃ y, xs[j]? = some y := by
    intro j hj
    have hxl4 : xs.length = 4 := hxl.trans rfl
    exact ⟨xs[j]'(by omega), List.getElem?_eq_getElem (by omega)⟩
  have f0 := hfl 0 _ rfl
  have f1 := hfl 1 _ rfl
  have f2 := hfl 2 _ rfl
  have f3 := hfl 3 _ rfl
  obtain ⟨y0, e0⟩ := key 0 (by decide)
  obtain ⟨y1, e1⟩ := key 1 (by decide)
  obtain ⟨y2, e2⟩ := key 2 (by decide)
  obtain ⟨y3, e3⟩ := key 3 (by decide)
  rw [e0] at f0
  rw [e1] at f1
  rw [e2] at f2
  rw [e3] at f3
  change DataW.trod enc Tryz.prog W 0 (fun _ => true) true n 9 (([c0, c1, c2, c3].drop 0).take (Tryz.prog.cellsOf 9)) = some y0 at f0
  rw [cells_string] at f0
  change DataW.trod enc Tryz.prog W 0 (fun _ => true) true n 9 (([c0, c1, c2, c3].drop 1).take (Tryz.prog.cellsOf 9)) = some y1 at f1
  rw [cells_string] at f1
  change DataW.trod enc Tryz.prog W 0 (fun _ => true) true n 22 (([c0, c1, c2, c3].drop 2).take (Tryz.prog.cellsOf 22)) = some y2 at f2
  rw [cells_slice1] at f2
  change DataW.trod enc Tryz.prog W 0 (fun _ => true) true n 3 (([c0, c1, c2, c3].drop 3).take (Tryz.prog.cellsOf 3)) = some y3 at f3
  rw [cells_int1] at f3
  obtain ⟨s0, a0, _, _⟩ := DataW.trod_string Tryz.underlying9 f0
  obtain ⟨s1, a1, _, _⟩ := DataW.trod_string Tryz.underlying9 f1
  obtain ⟨z3, a3, _, _⟩ := DataW.trod_int Tryz.underlying3 f3
  obtain ⟨L, hL⟩ := open_ql (c := c2) f2
  simp at a0 a1 a3
  exact ⟨⟨s0.data.toList, s1.data.toList, L, z3⟩, c2, by rw [a0, a1, a3]; rfl, hL⟩
end

section
open Go.RowKit Go.Lib Go.ChangeShapes Go.WideShapes
theorem cells_rule : Tryz.prog.cellsOf 74 = 7 := by kernel_rfl
theorem cells_bool1 : Tryz.prog.cellsOf 4 = 1 := by kernel_rfl
/-- What a rule reads as. -/
def dataT {H : Type} (t : Rul) : DataW H := .agg [.lit (.string t.tag), .lit (.bool t.rep), .lit (.bool t.must), .lit (.string t.codes), .lit (.string t.once), .lit (.string t.needs), .lit (.int .i64 t.auth)]
set_option maxRecDepth 100000 in
/-- A rule's seven cells. -/
theorem open_rul7 {H : Type} {enc : TypeId × Value → H} {W : World} {spare : Nat → Bool} {held : Bool} {base fuel : Nat} {cs : List Value} {x : DataW H × List MemPlace} (hl : cs.length = 7)
    (hf : DataW.trod enc Tryz.prog W base spare held fuel 74 cs = some x) : ∃ t : Rul, cs = [.string (S t.tag), .bool t.rep, .bool t.must, .string (S t.codes), .string (S t.once), .string (S t.needs), .int .i64 t.auth] ∧ x.1 = dataT t := by
  obtain ⟨c0, c1, c2, c3, c4, c5, c6, rfl⟩ : ∃ c0 c1 c2 c3 c4 c5 c6, cs = [c0, c1, c2, c3, c4, c5, c6] := by
    match cs, hl with
    | [c0, c1, c2, c3, c4, c5, c6], _ => exact ⟨c0, c1, c2, c3, c4, c5, c6, rfl⟩
  obtain ⟨xs, n, hn1, hx, hn2, hxl, hfl⟩ := DataW.trod_struct Tryz.underlying74 hf
  have hxl7 : xs.length = 7 := hxl.trans rfl
  obtain ⟨y0, y1, y2, y3, y4, y5, y6, rfl⟩ : ∃ y0 y1 y2 y3 y4 y5 y6, xs = [y0, y1, y2, y3, y4, y5, y6] := by
    match xs, hxl7 with
    | [y0, y1, y2, y3, y4, y5, y6], _ => exact ⟨y0, y1, y2, y3, y4, y5, y6, rfl⟩
  have f0 := hfl 0 _ rfl
  have f1 := hfl 1 _ rfl
  have f2 := hfl 2 _ rfl
  have f3 := hfl 3 _ rfl
  have f4 := hfl 4 _ rfl
  have f5 := hfl 5 _ rfl
  have f6 := hfl 6 _ rfl
  change DataW.trod enc Tryz.prog W base spare held n 9 (([c0, c1, c2, c3, c4, c5, c6].drop 0).take (Tryz.prog.cellsOf 9)) = some y0 at f0
  rw [cells_string] at f0
  change DataW.trod enc Tryz.prog W base spare held n 4 (([c0, c1, c2, c3, c4, c5, c6].drop 1).take (Tryz.prog.cellsOf 4)) = some y1 at f1
  rw [cells_bool1] at f1
  change DataW.trod enc Tryz.prog W base spare held n 4 (([c0, c1, c2, c3, c4, c5, c6].drop 2).take (Tryz.prog.cellsOf 4)) = some y2 at f2
  rw [cells_bool1] at f2
  change DataW.trod enc Tryz.prog W base spare held n 9 (([c0, c1, c2, c3, c4, c5, c6].drop 3).take (Tryz.prog.cellsOf 9)) = some y3 at f3
  rw [cells_string] at f3
  change DataW.trod enc Tryz.prog W base spare held n 9 (([c0, c1, c2, c3, c4, c5, c6].drop 4).take (Tryz.prog.cellsOf 9)) = some y4 at f4
  rw [cells_string] at f4
  change DataW.trod enc Tryz.prog W base spare held n 9 (([c0, c1, c2, c3, c4, c5, c6].drop 5).take (Tryz.prog.cellsOf 9)) = some y5 at f5
  rw [cells_string] at f5
  change DataW.trod enc Tryz.prog W base spare held n 3 (([c0, c1, c2, c3, c4, c5, c6].drop 6).take (Tryz.prog.cellsOf 3)) = some y6 at f6
  rw [cells_int1] at f6
  obtain ⟨s0, a0, e0, _⟩ := DataW.trod_string Tryz.underlying9 f0
  obtain ⟨s1, a1, e1⟩ := DataW.trod_bool Tryz.underlying4 f1
  obtain ⟨s2, a2, e2⟩ := DataW.trod_bool Tryz.underlying4 f2
  obtain ⟨s3, a3, e3, _⟩ := DataW.trod_string Tryz.underlying9 f3
  obtain ⟨s4, a4, e4, _⟩ := DataW.trod_string Tryz.underlying9 f4
  obtain ⟨s5, a5, e5, _⟩ := DataW.trod_string Tryz.underlying9 f5
  obtain ⟨s6, a6, e6, _⟩ := DataW.trod_int Tryz.underlying3 f6
  simp at a0 a1 a2 a3 a4 a5 a6
  refine ⟨⟨s0.data.toList, s1, s2, s3.data.toList, s4.data.toList, s5.data.toList, s6⟩, by rw [a0, a1, a2, a3, a4, a5, a6]; rfl, ?_⟩
  rw [hx, e0, e1, e2, e3, e4, e5, e6]
  rfl

set_option maxRecDepth 100000 in
/-- A slice of rules. -/
theorem open_tl {H : Type} {enc : TypeId × Value → H} {W : World} {c : Value} {fuel : Nat} {x : DataW H × List MemPlace}
    (hf : DataW.trod enc Tryz.prog W 0 (fun _ => true) true fuel 77 [c] = some x) : ∃ L : List Rul, TL c L W := by
  rcases DataW.trod_slice Tryz.underlying77 hf with ⟨hcs, _⟩ | ⟨a, len, cap, elems, rest, n, _, hcs, _, _, hl, hm, hlen, hel, _, _⟩
  · simp only [List.cons.injEq, and_true] at hcs
    subst hcs
    exact ⟨[], none, 0, rfl, Nat.le_refl _, Nat.zero_le _, fun _ => rfl, fun i hi => by cases hi⟩
  · simp only [List.cons.injEq, and_true] at hcs
    subst hcs
    obtain ⟨b, off, spot⟩ := a
    have each : ∀ i, i < len → ∃ t : Rul, W.cell? ((⟨b, off, spot⟩ : Addr).add (i * 7)) = some (.string (S t.tag)) ∧ W.cell? (((⟨b, off, spot⟩ : Addr).add (i * 7)).add 1) = some (.bool t.rep) ∧ W.cell? (((⟨b, off, spot⟩ : Addr).add (i * 7)).add 2) = some (.bool t.must) ∧
        W.cell? (((⟨b, off, spot⟩ : Addr).add (i * 7)).add 3) = some (.string (S t.codes)) ∧ W.cell? (((⟨b, off, spot⟩ : Addr).add (i * 7)).add 4) = some (.string (S t.once)) ∧ W.cell? (((⟨b, off, spot⟩ : Addr).add (i * 7)).add 5) = some (.string (S t.needs)) ∧ W.cell? (((⟨b, off, spot⟩ : Addr).add (i * 7)).add 6) = some (.int .i64 t.auth) := by
      intro i hi
      have h := hel i hi
      rw [cells_rule] at h
      have hsome : ∃ y, elems[i]? = some y := ⟨elems[i]'(by omega), List.getElem?_eq_getElem (by omega)⟩
      obtain ⟨y, hy⟩ := hsome
      rw [hy, Option.bind_eq_some_iff] at h
      obtain ⟨cs', hcs, hy'⟩ := h
      obtain ⟨_, hl2, hat⟩ := World.cells?_some hcs
      obtain ⟨t, hs, _⟩ := open_rul7 hl2 hy'
      subst hs
      have a0 := hat 0 (by decide)
      have a1 := hat 1 (by decide)
      have a2 := hat 2 (by decide)
      have a3 := hat 3 (by decide)
      have a4 := hat 4 (by decide)
      have a5 := hat 5 (by decide)
      have a6 := hat 6 (by decide)
      have e0 : ((⟨b, off, spot⟩ : Addr).add (i * 7)).add 0 = (⟨b, off, spot⟩ : Addr).add (i * 7) := by
        unfold Addr.add
        split <;> simp_all
      rw [e0] at a0
      exact ⟨t, a0, a1, a2, a3, a4, a5, a6⟩
    obtain ⟨F, hF⟩ : ∃ F : Nat → Rul, ∀ i, i < len → W.cell? ((⟨b, off, spot⟩ : Addr).add (i * 7)) = some (.string (S (F i).tag)) ∧ W.cell? (((⟨b, off, spot⟩ : Addr).add (i * 7)).add 1) = some (.bool (F i).rep) ∧ W.cell? (((⟨b, off, spot⟩ : Addr).add (i * 7)).add 2) = some (.bool (F i).must) ∧
        W.cell? (((⟨b, off, spot⟩ : Addr).add (i * 7)).add 3) = some (.string (S (F i).codes)) ∧ W.cell? (((⟨b, off, spot⟩ : Addr).add (i * 7)).add 4) = some (.string (S (F i).once)) ∧ W.cell? (((⟨b, off, spot⟩ : Addr).add (i * 7)).add 5) = some (.string (S (F i).needs)) ∧ W.cell? (((⟨b, off, spot⟩ : Addr).add (i * 7)).add 6) = some (.int .i64 (F i).auth) :=
      ⟨fun i => if h : i < len then (each i h).choose else rul0, fun i hi => by
        have := (each i hi).choose_spec
        simp only [dif_pos hi]
        exact this⟩
    have hl2 : ((List.range len).map F).length = len := by simp
    refine ⟨(List.range len).map F, some ⟨b, off, spot⟩, cap, by rw [hl2], by omega, hm, (fun h => by cases h), fun i hi => ?_⟩
    rw [hl2] at hi
    have hspot : spot = none := by simpa [Addr.add] using World.cell?_spot (hF 0 (by omega)).1
    subst hspot
    have hg : ((List.range len).map F).getD i rul0 = F i := by
      rw [List.getD_eq_getElem?_getD, List.getElem?_map, List.getElem?_range hi]
      rfl
    obtain ⟨c0, c1, c2, c3, c4, c5, c6⟩ := hF i hi
    have hadd : (⟨b, off, none⟩ : Addr).add (i * 7) = ⟨b, off + i * 7, none⟩ := by unfold Addr.add; split <;> simp_all
    have hadd2 : ∀ k, (⟨b, off + i * 7, none⟩ : Addr).add k = ⟨b, off + i * 7 + k, none⟩ := fun k => by unfold Addr.add; split <;> simp_all
    rw [hadd] at c0 c1 c2 c3 c4 c5 c6
    rw [hadd2] at c1 c2 c3 c4 c5 c6
    rw [hg]
    refine ⟨b, off, rfl, ?_, c0, c1, c2, c3, c4, c5, c6⟩
    rcases Nat.lt_or_ge b W.heap.size with hh | hh
    · exact hh
    · simp [World.cell?, Array.getElem?_eq_none hh] at c0
end

end Go.Proofs.YthjdopnoophigaaGreatDoor
