/- Merged: RP15. -/
import Derived.Test.YtfjfpefpdlecbaaGreatDoorQ44
import Derived.Test.YtfjfpefpdlecbaaGreatDoorQ15
import Derived.Test.YtfjfpefpdlecbaaGreatDoorQ43
import Derived.BigRegion
import Derived.RegionTactic
namespace Go.Proofs.YtfjfpefpdlecbaaGreatDoor

section
open Go.RowKit Go.PlainAid
set_option maxHeartbeats 64000000 in
set_option maxRecDepth 100000 in
theorem refFind_any (m : MRule) (mv : Value) (l : List Rec) (u : Value) (r : Rec) (ur : Value) (w : World) (hm : KL mv m.keys w) (hM : okM m) (hu : RL u l w) (ho : ∀ x ∈ l, okR x) (hz : l.length ≤ 8) (hr : FL ur r.fields w) (hor : okR r) :
    Calls Tryz.prog 24 #[MV m mv, u, RV r ur] w fun e w' => ∃ v, e = .returned v ∧ IL v (findM m l r) w' ∧ Below w.heap.size w w' := by
  obtain ⟨Q, hQ⟩ : ∃ Q, (fun (e : Ending) (w' : World) => ∃ v, e = .returned v ∧ IL v (findM m l r) w' ∧ Below w.heap.size w w') = Q := ⟨_, rfl⟩
  rw [hQ]
  have HQ : RowKit.Hid (∀ v W, IL v (findM m l r) W → Below w.heap.size w W → Q (.returned v) W) := by
    rw [← hQ]
    exact fun v W h1 h2 => ⟨v, rfl, h1, h2⟩
  obtain ⟨mx, mc, hmv, -, -⟩ : ∃ a cap, mv = .slice a m.keys.length cap ∧ m.keys.length ≤ cap ∧ cap ≤ maxLen := by
    obtain ⟨a, cap, h1, h2, h3, _⟩ := hm
    exact ⟨a, cap, h1, h2, h3⟩
  obtain ⟨ra, rc, hur, -, -⟩ := hr.length
  obtain ⟨al, cl, gl, ol, us, huu, hcl, hcm, hga, hxa⟩ := hu.open15
  obtain ⟨W0, hW0⟩ : ∃ W0, (w.alloc (.cells #[mv, .int .i64 m.need] 24)).alloc (.cells #[.int .i64 r.id, .int .i64 r.ver, .int .i64 r.kind, .string (S r.lang), ur] 33) = W0 := ⟨_, rfl⟩
  have b0 : Below w.heap.size w W0 := by rw [← hW0]; exact ((Below.refl w.heap.size w).alloc (Nat.le_refl _) _).alloc (by simp) _
  have hsz0 : W0.heap.size = w.heap.size + 2 := by rw [← hW0]; simp
  have hM0 : W0.heap[w.heap.size]? = some (.cells #[mv, .int .i64 m.need] 24 (0, 0)) := by
    rw [← hW0]
    exact (Below.heap_alloc _ _ _ (by simp)).trans (heap_alloc_new w _)
  have hR0 : W0.heap[w.heap.size + 1]? = some (.cells #[.int .i64 r.id, .int .i64 r.ver, .int .i64 r.kind, .string (S r.lang), ur] 33 (0, 0)) := by
    rw [← hW0]
    have := heap_alloc_new (w.alloc (.cells #[mv, .int .i64 m.need] 24)) (.cells #[.int .i64 r.id, .int .i64 r.ver, .int .i64 r.kind, .string (S r.lang), ur] 33)
    simpa using this
  have HMx := Lib.hid (fun (W : World) (h : Below W0.heap.size W0 W) => (h.block w.heap.size (by omega)).trans hM0)
  have HRx := Lib.hid (fun (W : World) (h : Below W0.heap.size W0 W) => (h.block (w.heap.size + 1) (by omega)).trans hR0)
  have HBw := Lib.hid (fun (W : World) (h : Below W0.heap.size W0 W) => b0.trans (h.mono b0.size))
  have HX := Lib.hid (fun (W : World) (h : Below W0.heap.size W0 W) => hxa W (HBw.out W h))
  have cS := Lib.hid (fun (x : Rec) (hx : x ∈ l) (ux : Value) (W : World) (h : Below W0.heap.size W0 W) (hf : FL ux x.fields W) => refScore_any m mv x r ux ur W (hm.after (HBw.out W h)) hM hf (hr.after (HBw.out W h)) (ho x hx) hor)
  have HMem := Lib.hid (fun i (h : i < l.length) => show l.getD i rec0 ∈ l by
    rw [List.getD_eq_getElem?_getD, List.getElem?_eq_getElem h]
    exact List.getElem_mem h)
  have HSs := Lib.hid (fun i (h : i < l.length) => sf_step m l r i h)
  have HSl := Lib.hid (fun i => sf_len m l r i)
  have HSz := Lib.hid (sf_zero m l r)
  have HSe := Lib.hid (sf_end m l r)
  have e1 := IN.empty W0
  have be1 := (Below.refl W0.heap.size W0).alloc (Nat.le_refl _) (.cells #[] 3)
  have e2 := IN.empty (W0.alloc (.cells #[] 3))
  have be2 := (Below.refl (W0.alloc (.cells #[] 3)).heap.size (W0.alloc (.cells #[] 3))).alloc (Nat.le_refl _) (.cells #[] 3)
  have hs1 : (W0.alloc (.cells #[] 3)).heap.size = W0.heap.size + 1 := by simp
  have e1b := e1.after be2
  have be3 := be1.trans (be2.mono be1.size)
  rw [hs1] at e2
  have HE1 := Lib.hid e1b
  have HE2 : RowKit.Hid (IN W0.heap.size (.slice (some ⟨W0.heap.size + 1, 0, none⟩) 0 0) [] ((W0.alloc (.cells #[] 3)).alloc (.cells #[] 3))) := rowE_base e2 (Nat.le_succ _)
  have HBE := Lib.hid be3
  have HW0 := Lib.hid hW0
  unfold maxLen at hcm
  unfold MV RV at *
  subst hmv hur huu
  clear hQ hm hu ho hW0 hM0 hR0 b0 hsz0 hM hr hor hxa e1 be1 e2 be2 hs1 e1b be3
  generalize m.keys.length = mn at *
  generalize r.fields.length = rn at *
  generalize hnd2 : m.need = need at *
  clear hnd2
  generalize hri : r.id = rid at *
  clear hri
  generalize r.ver = rver at *
  generalize r.kind = rkind at *
  generalize S r.lang = lg at *
  obtain ⟨n, hn⟩ : ∃ n, l.length = n := ⟨_, rfl⟩
  rw [hn] at hz hcl hga HX HMem HSs HSe ⊢
  clear hn
  go_enter Tryz.func24, Tryz.ntmps24
  go_upto_region 1 with fail
  rw [HW0.out]
  clear HW0
  go_wp2
  go_loopw [7, 8, 9, 10, 11] (fun s7 s8 s9 _ _ wr => ∃ i : Nat, s9 = .int .i64 (i : Int) ∧ i ≤ n ∧ RowKit.Hid (IN W0.heap.size s7 ((sfM m l r i).map (·.2)) wr) ∧ RowKit.Hid (IN W0.heap.size s8 ((sfM m l r i).map (·.1)) wr) ∧ RowKit.Hid (Below W0.heap.size W0 wr)) (fun _ _ s9 _ _ _ => n - (intOf s9).toNat)
  case atStart => exact ⟨0, rfl, Nat.zero_le _, by rw [HSz.out]; exact HE1.out, by rw [HSz.out]; exact HE2.out, HBE.out⟩
  case round =>
    obtain ⟨i, rfl, hi, HI, HS, HB⟩ := hrel
    clear HE1 HE2 HBE
    obtain ⟨w5, hw5⟩ : ∃ wq, wr = wq := ⟨_, rfl⟩
    rw [hw5] at HI HS HB ⊢
    clear hw5
    by_cases hin : i < n
    · have i1 : (0 : Int) ≤ (i : Int) := by omega
      have i2 : (i : Int) < (n : Int) := by omega
      obtain rfl := hga (by omega)
      obtain ⟨X, hXd⟩ : ∃ X, l.getD i rec0 = X := ⟨_, rfl⟩
      have hxm := HMem.out i hin
      have hxc := fun (W : World) (h : Below W0.heap.size W0 W) => HX.out W h i hin
      have hst := HSs.out i hin
      rw [hXd] at hxm hxc hst
      obtain ⟨xa, xc, hux, -, -⟩ := (hxc w5 HB.out).2.length
      rw [hux] at hxc
      have hsc1 := fun (W : World) (h : Below W0.heap.size W0 W) => cS.out X hxm _ W h (hxc W h).2
      obtain ⟨sc, hsc⟩ : ∃ x, scoreM m X r = x := ⟨_, rfl⟩
      rw [hsc] at hst hsc1
      obtain ⟨S0, hS0⟩ : ∃ x, sfM m l r i = x := ⟨_, rfl⟩
      have hsl := HSl.out i
      rw [hS0] at hst HI HS hsl
      have hxc1 := fun (W : World) (h : Below W0.heap.size W0 W) => (hxc W h).1
      clear hxm hxc hsc hS0 hXd hux
      generalize X.fields.length = xn at *
      generalize X.id = xid at *
      generalize X.ver = xver at *
      generalize X.kind = xkind at *
      generalize S X.lang = xlg at *
      obtain ⟨ns, hns⟩ : ∃ x, S0.length = x := ⟨_, rfl⟩
      have hl1 : (S0.map (·.1)).length = ns := by rw [List.length_map, hns]
      have hl2 : (S0.map (·.2)).length = ns := by rw [List.length_map, hns]
      have hI0 := HI.out
      have hS0 := HS.out
      unfold IN at hI0 hS0
      rw [hl2] at hI0
      rw [hl1] at hS0
      obtain ⟨gi, ci, h7, hci, hcim, hgi, hgl, hIc⟩ := rowE_opened hI0
      obtain ⟨gs, cs, h8, hcs, hcsm, hgs, hgsl, hSc⟩ := rowE_opened hS0
      subst h7 h8
      unfold maxLen at hcim hcsm
      rw [hns] at hsl
      have HStep := Lib.hid hst
      have HNs := Lib.hid hns
      have cS1 := Lib.hid (fun (W : World) (h : Below w5.heap.size w5 W) => hsc1 W (HB.out.trans (h.mono HB.out.size)))
      have HMq := Lib.hid (fun (W : World) (h : Below w5.heap.size w5 W) => HMx.out W (HB.out.trans (h.mono HB.out.size)))
      have HRq := Lib.hid (fun (W : World) (h : Below w5.heap.size w5 W) => HRx.out W (HB.out.trans (h.mono HB.out.size)))
      have HCq := Lib.hid (fun (W : World) (h : Below w5.heap.size w5 W) => hxc1 W (HB.out.trans (h.mono HB.out.size)))
      have HIx := Lib.hid hIc
      have HSx := Lib.hid hSc
      clear hI0 hS0 hIc hSc hst hns hsc1 hxc1 hl1 hl2
      have hn8 : i ≤ 8 := by omega
      go_upto_region 5 with fail
      apply wp_region_inv (V := [.eq (.agg #[.slice mx mn mc, .int .i64 need]), .eq (.slice (some ⟨gl, ol, none⟩) n cl), .eq (.int .i64 (i : Int)), .eq (.pointer (some ⟨gl, ol + i * 5, none⟩)), .eq (.agg #[.int .i64 xid, .int .i64 xver, .int .i64 xkind, .string xlg, .slice xa xn xc]), .eq (.agg #[.int .i64 rid, .int .i64 rver, .int .i64 rkind, .string lg, .slice ra rn rc]), .eq (.int .i64 sc), .eq (.int .i64 sc)])
      case hm => kernel_rfl
      case hd => kernel_rfl
      case hb => kernel_rfl
      case hA =>
        intro vs
        simp only [puts, Act.put, List.setIfInBounds_toArray, List.set_cons_zero, List.set_cons_succ]
        exact rfl
      case hob =>
        refine Obs.cons _ _ _ _ _ _ ?o0 (Obs.cons _ _ _ _ _ _ ?o1 (Obs.cons _ _ _ _ _ _ ?o2 (Obs.cons _ _ _ _ _ _ ?o3 (Obs.cons _ _ _ _ _ _ ?o4 (Obs.cons _ _ _ _ _ _ ?o5 (Obs.cons _ _ _ _ _ _ ?o6 (Obs.cons _ _ _ _ _ _ ?o7 (Obs.nil _ _ _ _ _ _))))))))
        case o0 =>
          intro vs W hw hd K hK
          obtain ⟨m0, m1⟩ := mcells2 (HMq.out W hw)
          go_simp
          exact hK.out _ _ rfl (Below.refl _ _)
        case o1 =>
          intro vs W hw hd K hK
          go_simp
          exact hK.out _ _ rfl (Below.refl _ _)
        case o2 =>
          intro vs W hw hd K hK
          go_simp
          exact hK.out _ _ rfl (Below.refl _ _)
        case o3 =>
          intro vs W hw hd K hK
          have h1 : vs 1 = .slice (some ⟨gl, ol, none⟩) n cl := hd 1 (by kernel_rfl)
          have h2 : vs 2 = .int .i64 (i : Int) := hd 2 (by kernel_rfl)
          simp only [Nat.reduceAdd, h1, h2] at hK ⊢
          go_simp
          exact hK.out _ _ rfl (Below.refl _ _)
        case o4 =>
          intro vs W hw hd K hK
          have h3 : vs 3 = .pointer (some ⟨gl, ol + i * 5, none⟩) := hd 3 (by kernel_rfl)
          obtain ⟨c0, c1, c2, c3, c4⟩ := HCq.out W hw
          simp only [Nat.reduceAdd, h3] at hK ⊢
          go_simp
          exact hK.out _ _ rfl (Below.refl _ _)
        case o5 =>
          intro vs W hw hd K hK
          obtain ⟨r0, r1, r2, r3, r4⟩ := rcells5 (HRq.out W hw)
          go_simp
          exact hK.out _ _ rfl (Below.refl _ _)
        case o6 =>
          intro vs W hw hd K hK
          have h0 : vs 0 = .agg #[.slice mx mn mc, .int .i64 need] := hd 0 (by kernel_rfl)
          have h4 : vs 4 = .agg #[.int .i64 xid, .int .i64 xver, .int .i64 xkind, .string xlg, .slice xa xn xc] := hd 4 (by kernel_rfl)
          have h5 : vs 5 = .agg #[.int .i64 rid, .int .i64 rver, .int .i64 rkind, .string lg, .slice ra rn rc] := hd 5 (by kernel_rfl)
          simp only [Nat.reduceAdd, h0, h4, h5] at hK ⊢
          go_simp
          refine (cS1.out W hw).mono ?_
          rintro e W' ⟨rfl, hb'⟩
          exact hK.out _ _ rfl hb'
        case o7 =>
          intro vs W hw hd K hK
          have h6 : vs 6 = .int .i64 sc := hd 6 (by kernel_rfl)
          simp only [Nat.reduceAdd, h6] at hK ⊢
          go_simp
          exact hK.out _ _ rfl (Below.refl _ _)
      case hfin =>
        intro vs wq hw hd
        have h7 : vs 7 = .int .i64 sc := hd 7 (by decide)
        simp only [Nat.reduceAdd, h7]
        clear hd h7
        have HBq := Lib.hid (HB.out.trans (hw.mono HB.out.size))
        have HIr := Lib.hid (HI.out.after hw)
        have HSr := Lib.hid (HS.out.after hw)
        have HIc := Lib.hid (fun (W : World) (h : Below wq.heap.size wq W) => HIx.out W (hw.trans (h.mono hw.size)))
        have HSc := Lib.hid (fun (W : World) (h : Below wq.heap.size wq W) => HSx.out W (hw.trans (h.mono hw.size)))
        have HCz := Lib.hid (fun (W : World) (h : Below wq.heap.size wq W) => HCq.out W (hw.trans (h.mono hw.size)))
        have HMz := Lib.hid (fun (W : World) (h : Below wq.heap.size wq W) => HMq.out W (hw.trans (h.mono hw.size)))
        have HRz := Lib.hid (fun (W : World) (h : Below wq.heap.size wq W) => HRq.out W (hw.trans (h.mono hw.size)))
        clear hw HB HI HS HIx HSx HCq HMq HRq cS1
        obtain ⟨c0, -, -, -, -⟩ := HCz.out wq (Below.refl _ _)
        obtain ⟨r0, -, -, -, -⟩ := rcells5 (HRz.out wq (Below.refl _ _))
        obtain ⟨m0, m1⟩ := mcells2 (HMz.out wq (Below.refl _ _))
        clear HMz HRz
        have HDr : RowKit.Hid (∀ d, Below wq.heap.size wq (wq.drewN d)) := fun d => below_drewN16 wq d
        by_cases hid : xid = rid
        · have t1 : (xid == rid) = true := by simpa using hid
          have hS1 : sfM m l r (i + 1) = S0 := by rw [HStep.out, if_neg (fun h => h.1 hid)]
          have HS1 := Lib.hid hS1
          clear hS1 hid HStep
          go_upto_region 6 with fail
          go_quiet (fail)
          go_wp2
          go_roundw
          case rel => exact ⟨i + 1, by go_num, by omega, by rw [HS1.out]; exact HIr.out.after (HDr.out _), by rw [HS1.out]; exact HSr.out.after (HDr.out _), HBq.out.trans ((HDr.out _).mono HBq.out.size)⟩
          case measure => simp [intOf]; omega
        have t1 : (xid == rid) = false := by simpa using hid
        by_cases hnd : sc < need
        · have t2 : decide (sc < need) = true := decide_eq_true hnd
          have hS1 : sfM m l r (i + 1) = S0 := by rw [HStep.out, if_neg (fun h => by have := h.2; omega)]
          have HS1 := Lib.hid hS1
          clear hS1 hid HStep hnd
          go_upto_region 6 with fail
          go_quiet (fail)
          go_wp2
          go_roundw
          case rel => exact ⟨i + 1, by go_num, by omega, by rw [HS1.out]; exact HIr.out.after (HDr.out _), by rw [HS1.out]; exact HSr.out.after (HDr.out _), HBq.out.trans ((HDr.out _).mono HBq.out.size)⟩
          case measure => simp [intOf]; omega
        have t2 : decide (sc < need) = false := decide_eq_false hnd
        have hS1 : sfM m l r (i + 1) = insO ltF S0 (sc, xid) := by rw [HStep.out, if_pos ⟨hid, by omega⟩]
        have HS1 := Lib.hid hS1
        clear hS1 hid HStep hnd
        go_upto_region 6 with fail
        go_quiet (fail)
        go_wp2
        obtain ⟨CI, hCI⟩ : ∃ x, (S0.map (·.2)).map intV = x := ⟨_, rfl⟩
        obtain ⟨CS, hCS⟩ : ∃ x, (S0.map (·.1)).map intV = x := ⟨_, rfl⟩
        have HCIl : RowKit.Hid (CI.length = ns) := by unfold RowKit.Hid; rw [← hCI, List.length_map, List.length_map]; exact HNs.out
        have HCSl : RowKit.Hid (CS.length = ns) := by unfold RowKit.Hid; rw [← hCS, List.length_map, List.length_map]; exact HNs.out
        have HoI : RowKit.Hid (∀ u ∈ CI, u.oneCell' = true) := by rw [← hCI]; exact intV_one _
        have HoS : RowKit.Hid (∀ u ∈ CS, u.oneCell' = true) := by rw [← hCS]; exact intV_one _
        have HgI : RowKit.Hid (∀ (j : Nat) (y : Int × Int), S0[j]? = some y → CI[j]? = some (Value.int .i64 y.2)) := fun j y h => by rw [← hCI, List.getElem?_map, List.getElem?_map, h]; rfl
        have HgS : RowKit.Hid (∀ (j : Nat) (y : Int × Int), S0[j]? = some y → CS[j]? = some (Value.int .i64 y.1)) := fun j y h => by rw [← hCS, List.getElem?_map, List.getElem?_map, h]; rfl
        have HPI : RowKit.Hid (∀ k, plcO ltF S0 (sc, xid) = k → (CI.take k ++ [Value.int .i64 xid]) ++ CI.drop k = ((insO ltF S0 (sc, xid)).map (·.2)).map intV) := fun k h => by rw [← hCI]; exact ins_parts15 h (·.2)
        have HPS : RowKit.Hid (∀ k, plcO ltF S0 (sc, xid) = k → (CS.take k ++ [Value.int .i64 sc]) ++ CS.drop k = ((insO ltF S0 (sc, xid)).map (·.1)).map intV) := fun k h => by rw [← hCS]; exact ins_parts15 h (·.1)
        have HPlc : RowKit.Hid (∀ k, k ≤ ns → (∀ j, j < k → ∃ y, S0[j]? = some y ∧ ltF y (sc, xid) = true) → (∀ y, S0[k]? = some y → ltF y (sc, xid) = false) → plcO ltF S0 (sc, xid) = k) := fun k hk h1 h2 => by
          rw [place_at ltF (sc, xid) S0 k h1 h2, HNs.out]
          omega
        rw [hCI] at HIc
        rw [hCS] at HSc
        clear hCI hCS c0 r0 m0 m1 t1 t2
        go_loopw [11] (fun s11 wr => ∃ k : Nat, s11 = .int .i64 (k : Int) ∧ k ≤ ns ∧ RowKit.Hid (∀ j, j < k → ∃ y, S0[j]? = some y ∧ ltF y (sc, xid) = true) ∧ RowKit.Hid (Below wq.heap.size wq wr)) (fun s11 _ => ns - (intOf s11).toNat)
        case atStart => exact ⟨0, rfl, Nat.zero_le _, (fun j hj => by omega), HDr.out _⟩
        case round =>
          obtain ⟨k, rfl, hk, HJ, HBr⟩ := hrel
          obtain ⟨wz, hwz⟩ : ∃ x, wr = x := ⟨_, rfl⟩
          rw [hwz] at HBr ⊢
          clear hwz HDr
          have k1 : (0 : Int) ≤ (k : Int) := by omega
          obtain ⟨c0, -, -, -, -⟩ := HCz.out wz HBr.out
          have HDz : RowKit.Hid (∀ d, Below wq.heap.size wq (wz.drewN d)) := fun d => HBr.out.trans ((below_drewN16 wz d).mono HBr.out.size)
          by_cases hkn : k < ns
          · have k2 : (k : Int) < (ns : Int) := by omega
            have kc1 : k ≤ ci := by omega
            have kc2 : ¬ ci = k := by omega
            have kc3 : k ≤ cs := by omega
            have kc4 : ¬ cs = k := by omega
            obtain ⟨⟨p1, p2⟩, HK⟩ : ∃ y, RowKit.Hid (S0[k]? = some y) := ⟨S0.getD k (0, 0), by
              unfold RowKit.Hid
              rw [List.getD_eq_getElem?_getD, List.getElem?_eq_getElem (by rw [HNs.out]; exact hkn)]
              rfl⟩
            have hik := HIc.out wz HBr.out k _ (HgI.out k _ HK.out)
            have hsk := HSc.out wz HBr.out k _ (HgS.out k _ HK.out)
            (try dsimp only at hik hsk)
            have HJ2 : RowKit.Hid (ltF (p1, p2) (sc, xid) = true → ∀ j, j < k + 1 → ∃ y, S0[j]? = some y ∧ ltF y (sc, xid) = true) := fun h j hj => by
              rcases Nat.lt_or_ge j k with hj2 | hj2
              · exact HJ.out j hj2
              · rw [show j = k by omega]; exact ⟨_, HK.out, h⟩
            have HP2 : RowKit.Hid (ltF (p1, p2) (sc, xid) = false → plcO ltF S0 (sc, xid) = k) := fun h => HPlc.out k hk HJ.out (fun y hy => by rw [HK.out] at hy; rw [← Option.some.inj hy]; exact h)
            by_cases hgt : sc < p1
            · have t3 : decide (sc < p1) = true := decide_eq_true hgt
              have HJ3 := Lib.hid (HJ2.out (by rw [ltF_iff]; exact .inl hgt))
              clear hgt HJ2 HP2 HJ HK HPlc
              go_upto_region 8 with fail
              go_quiet (fail)
              go_wp2
              go_roundw
              case rel => exact ⟨k + 1, by go_num, by omega, HJ3.out, HDz.out _⟩
              case measure => simp [intOf]; omega
            have t3 : decide (sc < p1) = false := decide_eq_false hgt
            by_cases heq : p1 = sc
            · have t4 : (p1 == sc) = true := by simpa using heq
              by_cases hlt : p2 < xid
              · have t5 : decide (p2 < xid) = true := decide_eq_true hlt
                have HJ3 := Lib.hid (HJ2.out (by rw [ltF_iff]; exact .inr ⟨heq, hlt⟩))
                clear hgt heq hlt HJ2 HP2 HJ HK HPlc
                go_upto_region 8 with fail
                go_quiet (fail)
                go_wp2
                go_roundw
                case rel => exact ⟨k + 1, by go_num, by omega, HJ3.out, HDz.out _⟩
                case measure => simp [intOf]; omega
              have t5 : decide (p2 < xid) = false := decide_eq_false hlt
              have hnl : ltF (p1, p2) (sc, xid) = false := by
                have : ¬ (ltF (p1, p2) (sc, xid) = true) := by rw [ltF_iff]; rintro (h | ⟨-, h⟩) <;> omega
                simpa using this
              have HIi := Lib.hid (HPI.out k (HP2.out hnl))
              have HIs := Lib.hid (HPS.out k (HP2.out hnl))
              clear hgt heq hlt HJ2 HP2 HJ HK HPlc hnl HPI HPS HgI HgS
              go_upto_region 8 with fail
              go_quiet (fail)
              clear hik hsk c0 t3 t4 t5 HDz
              go_upto_region 10 with fail
              generalize hW8 : wz.drewN _ = W8
              have hB8 : Below wq.heap.size wq W8 := by rw [← hW8]; exact HBr.out.trans ((below_drewN16 wz _).mono HBr.out.size)
              clear hW8
              have HB8 := Lib.hid (HBq.out.trans (hB8.mono HBq.out.size))
              have H8 := Lib.hid hB8
              have HId := Lib.hid (fun (W : World) (h : Below W8.heap.size W8 W) => (HCz.out W (hB8.trans (h.mono hB8.size))).1)
              have HlA : RowKit.Hid ((CI.take k).length = k) := by unfold RowKit.Hid; rw [List.length_take, HCIl.out]; omega
              have HlB : RowKit.Hid ((CI.drop k).length = (ns - k)) := by have := HCIl.out; unfold RowKit.Hid; rw [List.length_drop]; omega
              have HlC : RowKit.Hid ((CS.take k).length = k) := by unfold RowKit.Hid; rw [List.length_take, HCSl.out]; omega
              have HlD : RowKit.Hid ((CS.drop k).length = (ns - k)) := by have := HCSl.out; unfold RowKit.Hid; rw [List.length_drop]; omega
              have HIl : RowKit.Hid (k + 1 + (ns - k) = (insO ltF S0 (sc, xid)).length) := by have := HNs.out; unfold RowKit.Hid; rw [insO_len]; omega
              have HcA := Lib.hid (fun (W : World) (h : Below W8.heap.size W8 W) (j : Nat) (u : Value) (hu : (CI.take k)[j]? = some u) => show W.cell? ((⟨gi, 0, none⟩ : Addr).add j) = some u from by
                rw [add_zero15, Nat.zero_add]
                exact HIc.out W (hB8.trans (h.mono hB8.size)) j u (src_take15 hu))
              have HcB := Lib.hid (fun (W : World) (h : Below W8.heap.size W8 W) (j : Nat) (u : Value) (hu : (CI.drop k)[j]? = some u) => show W.cell? ((⟨gi, k, none⟩ : Addr).add j) = some u from by
                rw [add_zero15]
                exact HIc.out W (hB8.trans (h.mono hB8.size)) (k + j) u (src_drop15 hu))
              have HN8 := Lib.hid HB8.out.size
              clear hB8
              apply wp_region_ime (imp := fun i => decide (i ∈ [0, 4, 10, 11, 15])) (X := fun d vs W => Ch 0 4 10 11 15 W8.heap.size W8 3 1 k (ns - k) (CI.take k) [.int .i64 xid] (CI.drop k) d vs W) (V := [(fun _ => True), (fun v => v = .slice (some ⟨gi, 0, none⟩) ns ci), (fun v => v = .int .i64 (k : Int)), (fun v => v = .slice (some ⟨gi, 0, none⟩) k ci), (fun _ => True), (fun v => v = .slice (some ⟨gl, ol, none⟩) n cl), (fun v => v = .int .i64 (i : Int)), (fun v => v = .pointer (some ⟨gl, ol + i * 5, none⟩)), (fun v => v = .pointer (some ⟨gl, ol + i * 5, none⟩)), (fun v => v = .int .i64 xid), (fun _ => True), (fun _ => True), (fun v => v = .slice (some ⟨gi, 0, none⟩) ns ci), (fun v => v = .int .i64 (k : Int)), (fun v => v = .slice (some ⟨gi, k, none⟩) (ns - k) (ci - k)), (fun _ => True)]) (n := 16) (f := 2)
              case hX0 => exact fun vs => Ch.init (Below.refl _ _).drew (Nat.le_refl _) vs
              case hXst => exact fun d vs u w h hb => h.below hb
              case hXo =>
                intro d vs w i v hi h
                have hi := of_decide_eq_false hi
                simp only [List.mem_cons, List.not_mem_nil, or_false, not_or] at hi
                exact h.other i v (Ne.symm hi.1) (Ne.symm hi.2.1) (Ne.symm hi.2.2.1) (Ne.symm hi.2.2.2.1) (Ne.symm hi.2.2.2.2)
              case hm => kernel_rfl
              case hd => kernel_rfl
              case hb => kernel_rfl
              case hA =>
                intro vs
                simp only [List.take_succ_cons, List.take_zero, puts, Act.put, List.setIfInBounds_toArray, List.set_cons_zero, List.set_cons_succ]
                exact rfl
              case hlast => kernel_rfl
              case hol => exact rfl
              case hob =>
                refine ObsI.cons _ _ _ _ _ _ _ ?o0 (ObsI.cons _ _ _ _ _ _ _ ?o1 (ObsI.cons _ _ _ _ _ _ _ ?o2 (ObsI.cons _ _ _ _ _ _ _ ?o3 (ObsI.cons _ _ _ _ _ _ _ ?o4 (ObsI.cons _ _ _ _ _ _ _ ?o5 (ObsI.cons _ _ _ _ _ _ _ ?o6 (ObsI.cons _ _ _ _ _ _ _ ?o7 (ObsI.cons _ _ _ _ _ _ _ ?o8 (ObsI.cons _ _ _ _ _ _ _ ?o9 (ObsI.cons _ _ _ _ _ _ _ ?o10 (ObsI.cons _ _ _ _ _ _ _ ?o11 (ObsI.cons _ _ _ _ _ _ _ ?o12 (ObsI.cons _ _ _ _ _ _ _ ?o13 (ObsI.cons _ _ _ _ _ _ _ ?o14 (ObsI.cons _ _ _ _ _ _ _ ?o15 (ObsI.nil _ _ _ _ _ _ _))))))))))))))))
                case o0 =>
                  intro d vs W hdk hdep hcl hv hX K hK
                  go_simp
                  exact hK.out _ _ (fun _ => hX.s0 (by decide)) (fun h => absurd h (by decide))
                case o1 =>
                  intro d vs W hdk hdep hcl hv hX K hK
                  go_simp
                  exact hK.out _ _ (fun h => absurd h (by decide)) (fun _ => ⟨rfl, Below.refl _ _⟩)
                case o2 =>
                  intro d vs W hdk hdep hcl hv hX K hK
                  go_simp
                  exact hK.out _ _ (fun h => absurd h (by decide)) (fun _ => ⟨rfl, Below.refl _ _⟩)
                case o3 =>
                  intro d vs W hdk hdep hcl hv hX K hK
                  have h1 : vs 1 = .slice (some ⟨gi, 0, none⟩) ns ci := hv 1 (by kernel_rfl) (by decide)
                  have h2 : vs 2 = .int .i64 (k : Int) := hv 2 (by kernel_rfl) (by decide)
                  simp only [Nat.reduceAdd, h1, h2] at hK ⊢
                  go_simp
                  exact hK.out _ _ (fun h => absurd h (by decide)) (fun _ => ⟨rfl, Below.refl _ _⟩)
                case o4 =>
                  intro d vs W hdk hdep hcl hv hX K hK
                  have hn3 : d 11 = false := by
                    cases hq : d 11 with
                    | false => rfl
                    | true => exact absurd (hcl 11 _ 4 rfl (by kernel_rfl) hq) (by rw [hdk]; decide)
                  have hn4 : d 15 = false := by
                    cases hq : d 15 with
                    | false => rfl
                    | true => exact absurd (hcl 15 _ 11 rfl (by kernel_rfl) hq) (by rw [hn3]; decide)
                  have h3 : vs 3 = .slice (some ⟨gi, 0, none⟩) k ci := hv 3 (by kernel_rfl) (by decide)
                  have hr0 := hX.c0 (hdep 0 (by kernel_rfl)) hdk
                  obtain ⟨v', w', hr, hown, hnn, hg, hat⟩ := runI15 hr0 hX.size 46 ⟨gi, 0, none⟩ k ci (CI.take k) HlA.out (fun j u hu => HcA.out W hX.low j u hu) (one_take15 HoI.out) (by omega)
                  rw [Nat.zero_add, List.nil_append] at hown
                  apply step_append_run15 (d := .tmp 75) (s := .tmp 78) (t1 := 46) (t2 := 46) (u := vs 0) (x := .slice (some ⟨gi, 0, none⟩) k ci) (v := v') (w' := w')
                  case hgd => rfl
                  case ho => rfl
                  case hd => simp [Act.eval]
                  case hs => simp [Act.eval, h3]
                  case hrun => exact hr
                  case h => exact hK.out _ _ (fun _ => hX.s1 (by decide) (hdep 0 (by kernel_rfl)) hdk hn3 hn4 hown hnn hg hat) (fun h => absurd h (by decide))
                case o5 =>
                  intro d vs W hdk hdep hcl hv hX K hK
                  go_simp
                  exact hK.out _ _ (fun h => absurd h (by decide)) (fun _ => ⟨rfl, Below.refl _ _⟩)
                case o6 =>
                  intro d vs W hdk hdep hcl hv hX K hK
                  go_simp
                  exact hK.out _ _ (fun h => absurd h (by decide)) (fun _ => ⟨rfl, Below.refl _ _⟩)
                case o7 =>
                  intro d vs W hdk hdep hcl hv hX K hK
                  have h5 : vs 5 = .slice (some ⟨gl, ol, none⟩) n cl := hv 5 (by kernel_rfl) (by decide)
                  have h6 : vs 6 = .int .i64 (i : Int) := hv 6 (by kernel_rfl) (by decide)
                  simp only [Nat.reduceAdd, h5, h6] at hK ⊢
                  go_simp
                  exact hK.out _ _ (fun h => absurd h (by decide)) (fun _ => ⟨rfl, Below.refl _ _⟩)
                case o8 =>
                  intro d vs W hdk hdep hcl hv hX K hK
                  have h7 : vs 7 = .pointer (some ⟨gl, ol + i * 5, none⟩) := hv 7 (by kernel_rfl) (by decide)
                  simp only [Nat.reduceAdd, h7] at hK ⊢
                  go_simp
                  exact hK.out _ _ (fun h => absurd h (by decide)) (fun _ => ⟨rfl, Below.refl _ _⟩)
                case o9 =>
                  intro d vs W hdk hdep hcl hv hX K hK
                  have h8 : vs 8 = .pointer (some ⟨gl, ol + i * 5, none⟩) := hv 8 (by kernel_rfl) (by decide)
                  have c0 := HId.out W hX.low
                  simp only [Nat.reduceAdd, h8] at hK ⊢
                  go_simp
                  exact hK.out _ _ (fun h => absurd h (by decide)) (fun _ => ⟨rfl, Below.refl _ _⟩)
                case o10 =>
                  intro d vs W hdk hdep hcl hv hX K hK
                  have hn3 : d 11 = false := by
                    cases hq : d 11 with
                    | false => rfl
                    | true => exact absurd (hcl 11 _ 10 rfl (by kernel_rfl) hq) (by rw [hdk]; decide)
                  have hn4 : d 15 = false := by
                    cases hq : d 15 with
                    | false => rfl
                    | true => exact absurd (hcl 15 _ 11 rfl (by kernel_rfl) hq) (by rw [hn3]; decide)
                  have h9 : vs 9 = .int .i64 xid := hv 9 (by kernel_rfl) (by decide)
                  simp only [Nat.reduceAdd, h9] at hK ⊢
                  go_simp
                  exact hK.out _ _ (fun _ => hX.s2 (by decide) hn3 hn4) (fun h => absurd h (by decide))
                case o11 =>
                  intro d vs W hdk hdep hcl hv hX K hK
                  have hn4 : d 15 = false := by
                    cases hq : d 15 with
                    | false => rfl
                    | true => exact absurd (hcl 15 _ 11 rfl (by kernel_rfl) hq) (by rw [hdk]; decide)
                  have hr0 := hX.c1 (hdep 4 (by kernel_rfl)) hdk
                  obtain ⟨b, hx, hb, -, -⟩ := hX.c2 (hdep 10 (by kernel_rfl)) hdk
                  obtain ⟨v', w', hr, hown, hnn, hg, -⟩ := runI15 hr0 hX.size 46 ⟨b, 0, none⟩ 1 1 [.int .i64 xid] rfl (fun j u hu => by rw [add_zero15, Nat.zero_add, Lib.cell_of_heap hb]; simpa using hu) (by intro u hu; simp at hu; subst hu; rfl) (by omega)
                  apply step_append_run15 (d := .tmp 79) (s := .tmp 85) (t1 := 46) (t2 := 46) (u := vs 4) (x := .slice (some ⟨b, 0, none⟩) 1 1) (v := v') (w' := w')
                  case hgd => rfl
                  case ho => rfl
                  case hd => simp [Act.eval]
                  case hs => simp [Act.eval, hx]
                  case hrun => exact hr
                  case h => exact hK.out _ _ (fun _ => hX.s3 (by decide) (hdep 4 (by kernel_rfl)) hdk hn4 hown hnn hg) (fun h => absurd h (by decide))
                case o12 =>
                  intro d vs W hdk hdep hcl hv hX K hK
                  go_simp
                  exact hK.out _ _ (fun h => absurd h (by decide)) (fun _ => ⟨rfl, Below.refl _ _⟩)
                case o13 =>
                  intro d vs W hdk hdep hcl hv hX K hK
                  go_simp
                  exact hK.out _ _ (fun h => absurd h (by decide)) (fun _ => ⟨rfl, Below.refl _ _⟩)
                case o14 =>
                  intro d vs W hdk hdep hcl hv hX K hK
                  have h12 : vs 12 = .slice (some ⟨gi, 0, none⟩) ns ci := hv 12 (by kernel_rfl) (by decide)
                  have h13 : vs 13 = .int .i64 (k : Int) := hv 13 (by kernel_rfl) (by decide)
                  simp only [Nat.reduceAdd, h12, h13] at hK ⊢
                  go_simp
                  exact hK.out _ _ (fun h => absurd h (by decide)) (fun _ => ⟨rfl, Below.refl _ _⟩)
                case o15 =>
                  intro d vs W hdk hdep hcl hv hX K hK
                  have h14 : vs 14 = .slice (some ⟨gi, k, none⟩) (ns - k) (ci - k) := hv 14 (by kernel_rfl) (by decide)
                  have hd1 : d 4 = true := hcl 11 _ 4 rfl (by kernel_rfl) (hdep 11 (by kernel_rfl))
                  have hr0 := hX.c3 (hdep 11 (by kernel_rfl)) hdk
                  obtain ⟨v', w', hr, hown, hnn, hg, -⟩ := runI15 hr0 hX.size 46 ⟨gi, k, none⟩ (ns - k) (ci - k) (CI.drop k) HlB.out (fun j u hu => HcB.out W hX.low j u hu) (one_drop15 HoI.out) (by omega)
                  apply step_append_run15 (d := .tmp 86) (s := .tmp 89) (t1 := 46) (t2 := 46) (u := vs 11) (x := .slice (some ⟨gi, k, none⟩) (ns - k) (ci - k)) (v := v') (w' := w')
                  case hgd => rfl
                  case ho => rfl
                  case hd => simp [Act.eval]
                  case hs => simp [Act.eval, h14]
                  case hrun => exact hr
                  case h => exact hK.out _ _ (fun _ => hX.s4 (by decide) hd1 (hdep 11 (by kernel_rfl)) hdk hown hnn hg) (fun h => absurd h (by decide))
              case hfin =>
                intro d vs W9 hall hX hv
                have h4 := hX.c4 (hall 15 (by decide))
                rw [HIl.out, HIi.out] at h4
                have HI9 : RowKit.Hid (IN W0.heap.size (vs 15) ((insO ltF S0 (sc, xid)).map (·.2)) W9) := rowE_base (by rw [List.length_map]; exact h4) HN8.out
                have HB9 := Lib.hid (HB8.out.trans (hX.low.mono HB8.out.size))
                have HN9 := Lib.hid HB9.out.size
                have hB9 := H8.out.trans (hX.low.mono H8.out.size)
                obtain ⟨v7, hv7⟩ : ∃ v, vs 15 = v := ⟨_, rfl⟩
                rw [hv7] at HI9
                simp only [Nat.reduceAdd, hv7]
                have HcC := Lib.hid (fun (W : World) (h : Below W9.heap.size W9 W) (j : Nat) (u : Value) (hu : (CS.take k)[j]? = some u) => show W.cell? ((⟨gs, 0, none⟩ : Addr).add j) = some u from by
                  rw [add_zero15, Nat.zero_add]
                  exact HSc.out W (hB9.trans (h.mono hB9.size)) j u (src_take15 hu))
                have HcD := Lib.hid (fun (W : World) (h : Below W9.heap.size W9 W) (j : Nat) (u : Value) (hu : (CS.drop k)[j]? = some u) => show W.cell? ((⟨gs, k, none⟩ : Addr).add j) = some u from by
                  rw [add_zero15]
                  exact HSc.out W (hB9.trans (h.mono hB9.size)) (k + j) u (src_drop15 hu))
                clear h4 hX hv hv7 hall hB9 HcA HcB HId H8
                go_simp
                go_upto_region 11 with fail
                apply wp_region_ime (imp := fun i => decide (i ∈ [0, 4, 6, 7, 11])) (X := fun d vs W => Ch 0 4 6 7 11 W9.heap.size W9 3 1 k (ns - k) (CS.take k) [.int .i64 sc] (CS.drop k) d vs W) (V := [(fun _ => True), (fun v => v = .slice (some ⟨gs, 0, none⟩) ns cs), (fun v => v = .int .i64 (k : Int)), (fun v => v = .slice (some ⟨gs, 0, none⟩) k cs), (fun _ => True), (fun v => v = .int .i64 sc), (fun _ => True), (fun _ => True), (fun v => v = .slice (some ⟨gs, 0, none⟩) ns cs), (fun v => v = .int .i64 (k : Int)), (fun v => v = .slice (some ⟨gs, k, none⟩) (ns - k) (cs - k)), (fun _ => True)]) (n := 12) (f := 2)
                case hX0 => exact fun vs => Ch.init (Below.refl _ _).drew (Nat.le_refl _) vs
                case hXst => exact fun d vs u w h hb => h.below hb
                case hXo =>
                  intro d vs w i v hi h
                  have hi := of_decide_eq_false hi
                  simp only [List.mem_cons, List.not_mem_nil, or_false, not_or] at hi
                  exact h.other i v (Ne.symm hi.1) (Ne.symm hi.2.1) (Ne.symm hi.2.2.1) (Ne.symm hi.2.2.2.1) (Ne.symm hi.2.2.2.2)
                case hm => kernel_rfl
                case hd => kernel_rfl
                case hb => kernel_rfl
                case hA =>
                  intro vs
                  simp only [List.take_succ_cons, List.take_zero, puts, Act.put, List.setIfInBounds_toArray, List.set_cons_zero, List.set_cons_succ]
                  exact rfl
                case hlast => kernel_rfl
                case hol => exact rfl
                case hob =>
                  refine ObsI.cons _ _ _ _ _ _ _ ?o0 (ObsI.cons _ _ _ _ _ _ _ ?o1 (ObsI.cons _ _ _ _ _ _ _ ?o2 (ObsI.cons _ _ _ _ _ _ _ ?o3 (ObsI.cons _ _ _ _ _ _ _ ?o4 (ObsI.cons _ _ _ _ _ _ _ ?o5 (ObsI.cons _ _ _ _ _ _ _ ?o6 (ObsI.cons _ _ _ _ _ _ _ ?o7 (ObsI.cons _ _ _ _ _ _ _ ?o8 (ObsI.cons _ _ _ _ _ _ _ ?o9 (ObsI.cons _ _ _ _ _ _ _ ?o10 (ObsI.cons _ _ _ _ _ _ _ ?o11 (ObsI.nil _ _ _ _ _ _ _))))))))))))
                  case o0 =>
                    intro d vs W hdk hdep hcl hv hX K hK
                    go_simp
                    exact hK.out _ _ (fun _ => hX.s0 (by decide)) (fun h => absurd h (by decide))
                  case o1 =>
                    intro d vs W hdk hdep hcl hv hX K hK
                    go_simp
                    exact hK.out _ _ (fun h => absurd h (by decide)) (fun _ => ⟨rfl, Below.refl _ _⟩)
                  case o2 =>
                    intro d vs W hdk hdep hcl hv hX K hK
                    go_simp
                    exact hK.out _ _ (fun h => absurd h (by decide)) (fun _ => ⟨rfl, Below.refl _ _⟩)
                  case o3 =>
                    intro d vs W hdk hdep hcl hv hX K hK
                    have h1 : vs 1 = .slice (some ⟨gs, 0, none⟩) ns cs := hv 1 (by kernel_rfl) (by decide)
                    have h2 : vs 2 = .int .i64 (k : Int) := hv 2 (by kernel_rfl) (by decide)
                    simp only [Nat.reduceAdd, h1, h2] at hK ⊢
                    go_simp
                    exact hK.out _ _ (fun h => absurd h (by decide)) (fun _ => ⟨rfl, Below.refl _ _⟩)
                  case o4 =>
                    intro d vs W hdk hdep hcl hv hX K hK
                    have hn3 : d 7 = false := by
                      cases hq : d 7 with
                      | false => rfl
                      | true => exact absurd (hcl 7 _ 4 rfl (by kernel_rfl) hq) (by rw [hdk]; decide)
                    have hn4 : d 11 = false := by
                      cases hq : d 11 with
                      | false => rfl
                      | true => exact absurd (hcl 11 _ 7 rfl (by kernel_rfl) hq) (by rw [hn3]; decide)
                    have h3 : vs 3 = .slice (some ⟨gs, 0, none⟩) k cs := hv 3 (by kernel_rfl) (by decide)
                    have hr0 := hX.c0 (hdep 0 (by kernel_rfl)) hdk
                    obtain ⟨v', w', hr, hown, hnn, hg, hat⟩ := runI15 hr0 hX.size 46 ⟨gs, 0, none⟩ k cs (CS.take k) HlC.out (fun j u hu => HcC.out W hX.low j u hu) (one_take15 HoS.out) (by omega)
                    rw [Nat.zero_add, List.nil_append] at hown
                    apply step_append_run15 (d := .tmp 91) (s := .tmp 94) (t1 := 46) (t2 := 46) (u := vs 0) (x := .slice (some ⟨gs, 0, none⟩) k cs) (v := v') (w' := w')
                    case hgd => rfl
                    case ho => rfl
                    case hd => simp [Act.eval]
                    case hs => simp [Act.eval, h3]
                    case hrun => exact hr
                    case h => exact hK.out _ _ (fun _ => hX.s1 (by decide) (hdep 0 (by kernel_rfl)) hdk hn3 hn4 hown hnn hg hat) (fun h => absurd h (by decide))
                  case o5 =>
                    intro d vs W hdk hdep hcl hv hX K hK
                    go_simp
                    exact hK.out _ _ (fun h => absurd h (by decide)) (fun _ => ⟨rfl, Below.refl _ _⟩)
                  case o6 =>
                    intro d vs W hdk hdep hcl hv hX K hK
                    have hn3 : d 7 = false := by
                      cases hq : d 7 with
                      | false => rfl
                      | true => exact absurd (hcl 7 _ 6 rfl (by kernel_rfl) hq) (by rw [hdk]; decide)
                    have hn4 : d 11 = false := by
                      cases hq : d 11 with
                      | false => rfl
                      | true => exact absurd (hcl 11 _ 7 rfl (by kernel_rfl) hq) (by rw [hn3]; decide)
                    have h5 : vs 5 = .int .i64 sc := hv 5 (by kernel_rfl) (by decide)
                    simp only [Nat.reduceAdd, h5] at hK ⊢
                    go_simp
                    exact hK.out _ _ (fun _ => hX.s2 (by decide) hn3 hn4) (fun h => absurd h (by decide))
                  case o7 =>
                    intro d vs W hdk hdep hcl hv hX K hK
                    have hn4 : d 11 = false := by
                      cases hq : d 11 with
                      | false => rfl
                      | true => exact absurd (hcl 11 _ 7 rfl (by kernel_rfl) hq) (by rw [hdk]; decide)
                    have hr0 := hX.c1 (hdep 4 (by kernel_rfl)) hdk
                    obtain ⟨b, hx, hb, -, -⟩ := hX.c2 (hdep 6 (by kernel_rfl)) hdk
                    obtain ⟨v', w', hr, hown, hnn, hg, -⟩ := runI15 hr0 hX.size 46 ⟨b, 0, none⟩ 1 1 [.int .i64 sc] rfl (fun j u hu => by rw [add_zero15, Nat.zero_add, Lib.cell_of_heap hb]; simpa using hu) (by intro u hu; simp at hu; subst hu; rfl) (by omega)
                    apply step_append_run15 (d := .tmp 95) (s := .tmp 97) (t1 := 46) (t2 := 46) (u := vs 4) (x := .slice (some ⟨b, 0, none⟩) 1 1) (v := v') (w' := w')
                    case hgd => rfl
                    case ho => rfl
                    case hd => simp [Act.eval]
                    case hs => simp [Act.eval, hx]
                    case hrun => exact hr
                    case h => exact hK.out _ _ (fun _ => hX.s3 (by decide) (hdep 4 (by kernel_rfl)) hdk hn4 hown hnn hg) (fun h => absurd h (by decide))
                  case o8 =>
                    intro d vs W hdk hdep hcl hv hX K hK
                    go_simp
                    exact hK.out _ _ (fun h => absurd h (by decide)) (fun _ => ⟨rfl, Below.refl _ _⟩)
                  case o9 =>
                    intro d vs W hdk hdep hcl hv hX K hK
                    go_simp
                    exact hK.out _ _ (fun h => absurd h (by decide)) (fun _ => ⟨rfl, Below.refl _ _⟩)
                  case o10 =>
                    intro d vs W hdk hdep hcl hv hX K hK
                    have h8 : vs 8 = .slice (some ⟨gs, 0, none⟩) ns cs := hv 8 (by kernel_rfl) (by decide)
                    have h9 : vs 9 = .int .i64 (k : Int) := hv 9 (by kernel_rfl) (by decide)
                    simp only [Nat.reduceAdd, h8, h9] at hK ⊢
                    go_simp
                    exact hK.out _ _ (fun h => absurd h (by decide)) (fun _ => ⟨rfl, Below.refl _ _⟩)
                  case o11 =>
                    intro d vs W hdk hdep hcl hv hX K hK
                    have h10 : vs 10 = .slice (some ⟨gs, k, none⟩) (ns - k) (cs - k) := hv 10 (by kernel_rfl) (by decide)
                    have hd1 : d 4 = true := hcl 7 _ 4 rfl (by kernel_rfl) (hdep 7 (by kernel_rfl))
                    have hr0 := hX.c3 (hdep 7 (by kernel_rfl)) hdk
                    obtain ⟨v', w', hr, hown, hnn, hg, -⟩ := runI15 hr0 hX.size 46 ⟨gs, k, none⟩ (ns - k) (cs - k) (CS.drop k) HlD.out (fun j u hu => HcD.out W hX.low j u hu) (one_drop15 HoS.out) (by omega)
                    apply step_append_run15 (d := .tmp 98) (s := .tmp 101) (t1 := 46) (t2 := 46) (u := vs 7) (x := .slice (some ⟨gs, k, none⟩) (ns - k) (cs - k)) (v := v') (w' := w')
                    case hgd => rfl
                    case ho => rfl
                    case hd => simp [Act.eval]
                    case hs => simp [Act.eval, h10]
                    case hrun => exact hr
                    case h => exact hK.out _ _ (fun _ => hX.s4 (by decide) hd1 (hdep 7 (by kernel_rfl)) hdk hown hnn hg) (fun h => absurd h (by decide))
                case hfin =>
                  intro d vs W hall hX hv
                  have h4 := hX.c4 (hall 11 (by decide))
                  rw [HIl.out, HIs.out] at h4
                  have HS5 : RowKit.Hid (IN W0.heap.size (vs 11) ((insO ltF S0 (sc, xid)).map (·.1)) W) := rowE_base (by rw [List.length_map]; exact h4) HN9.out
                  have HI5 := Lib.hid (HI9.out.after hX.low)
                  have HB5 := Lib.hid (HB9.out.trans (hX.low.mono HB9.out.size))
                  obtain ⟨v8, hv8⟩ : ∃ v, vs 11 = v := ⟨_, rfl⟩
                  rw [hv8] at HS5
                  simp only [Nat.reduceAdd, hv8]
                  clear h4 hX hv hv8 hall
                  go_simp
                  go_wp2
                  go_roundw
                  case rel => exact ⟨i + 1, by go_num, by omega, by rw [HS1.out]; exact HI5.out, by rw [HS1.out]; exact HS5.out, HB5.out⟩
                  case measure => simp [intOf]; omega
            have t4 : (p1 == sc) = false := by simpa using heq
            have hnl : ltF (p1, p2) (sc, xid) = false := by
              have : ¬ (ltF (p1, p2) (sc, xid) = true) := by rw [ltF_iff]; rintro (h | ⟨h, -⟩) <;> omega
              simpa using this
            have HIi := Lib.hid (HPI.out k (HP2.out hnl))
            have HIs := Lib.hid (HPS.out k (HP2.out hnl))
            clear hgt heq HJ2 HP2 HJ HK HPlc hnl HPI HPS HgI HgS
            go_upto_region 8 with fail
            go_quiet (fail)
            clear hik hsk c0 t3 t4 HDz
            go_upto_region 10 with fail
            generalize hW8 : wz.drewN _ = W8
            have hB8 : Below wq.heap.size wq W8 := by rw [← hW8]; exact HBr.out.trans ((below_drewN16 wz _).mono HBr.out.size)
            clear hW8
            have HB8 := Lib.hid (HBq.out.trans (hB8.mono HBq.out.size))
            have H8 := Lib.hid hB8
            have HId := Lib.hid (fun (W : World) (h : Below W8.heap.size W8 W) => (HCz.out W (hB8.trans (h.mono hB8.size))).1)
            have HlA : RowKit.Hid ((CI.take k).length = k) := by unfold RowKit.Hid; rw [List.length_take, HCIl.out]; omega
            have HlB : RowKit.Hid ((CI.drop k).length = (ns - k)) := by have := HCIl.out; unfold RowKit.Hid; rw [List.length_drop]; omega
            have HlC : RowKit.Hid ((CS.take k).length = k) := by unfold RowKit.Hid; rw [List.length_take, HCSl.out]; omega
            have HlD : RowKit.Hid ((CS.drop k).length = (ns - k)) := by have := HCSl.out; unfold RowKit.Hid; rw [List.length_drop]; omega
            have HIl : RowKit.Hid (k + 1 + (ns - k) = (insO ltF S0 (sc, xid)).length) := by have := HNs.out; unfold RowKit.Hid; rw [insO_len]; omega
            have HcA := Lib.hid (fun (W : World) (h : Below W8.heap.size W8 W) (j : Nat) (u : Value) (hu : (CI.take k)[j]? = some u) => show W.cell? ((⟨gi, 0, none⟩ : Addr).add j) = some u from by
              rw [add_zero15, Nat.zero_add]
              exact HIc.out W (hB8.trans (h.mono hB8.size)) j u (src_take15 hu))
            have HcB := Lib.hid (fun (W : World) (h : Below W8.heap.size W8 W) (j : Nat) (u : Value) (hu : (CI.drop k)[j]? = some u) => show W.cell? ((⟨gi, k, none⟩ : Addr).add j) = some u from by
              rw [add_zero15]
              exact HIc.out W (hB8.trans (h.mono hB8.size)) (k + j) u (src_drop15 hu))
            have HN8 := Lib.hid HB8.out.size
            clear hB8
            apply wp_region_ime (imp := fun i => decide (i ∈ [0, 4, 10, 11, 15])) (X := fun d vs W => Ch 0 4 10 11 15 W8.heap.size W8 3 1 k (ns - k) (CI.take k) [.int .i64 xid] (CI.drop k) d vs W) (V := [(fun _ => True), (fun v => v = .slice (some ⟨gi, 0, none⟩) ns ci), (fun v => v = .int .i64 (k : Int)), (fun v => v = .slice (some ⟨gi, 0, none⟩) k ci), (fun _ => True), (fun v => v = .slice (some ⟨gl, ol, none⟩) n cl), (fun v => v = .int .i64 (i : Int)), (fun v => v = .pointer (some ⟨gl, ol + i * 5, none⟩)), (fun v => v = .pointer (some ⟨gl, ol + i * 5, none⟩)), (fun v => v = .int .i64 xid), (fun _ => True), (fun _ => True), (fun v => v = .slice (some ⟨gi, 0, none⟩) ns ci), (fun v => v = .int .i64 (k : Int)), (fun v => v = .slice (some ⟨gi, k, none⟩) (ns - k) (ci - k)), (fun _ => True)]) (n := 16) (f := 2)
            case hX0 => exact fun vs => Ch.init (Below.refl _ _).drew (Nat.le_refl _) vs
            case hXst => exact fun d vs u w h hb => h.below hb
            case hXo =>
              intro d vs w i v hi h
              have hi := of_decide_eq_false hi
              simp only [List.mem_cons, List.not_mem_nil, or_false, not_or] at hi
              exact h.other i v (Ne.symm hi.1) (Ne.symm hi.2.1) (Ne.symm hi.2.2.1) (Ne.symm hi.2.2.2.1) (Ne.symm hi.2.2.2.2)
            case hm => kernel_rfl
            case hd => kernel_rfl
            case hb => kernel_rfl
            case hA =>
              intro vs
              simp only [List.take_succ_cons, List.take_zero, puts, Act.put, List.setIfInBounds_toArray, List.set_cons_zero, List.set_cons_succ]
              exact rfl
            case hlast => kernel_rfl
            case hol => exact rfl
            case hob =>
              refine ObsI.cons _ _ _ _ _ _ _ ?o0 (ObsI.cons _ _ _ _ _ _ _ ?o1 (ObsI.cons _ _ _ _ _ _ _ ?o2 (ObsI.cons _ _ _ _ _ _ _ ?o3 (ObsI.cons _ _ _ _ _ _ _ ?o4 (ObsI.cons _ _ _ _ _ _ _ ?o5 (ObsI.cons _ _ _ _ _ _ _ ?o6 (ObsI.cons _ _ _ _ _ _ _ ?o7 (ObsI.cons _ _ _ _ _ _ _ ?o8 (ObsI.cons _ _ _ _ _ _ _ ?o9 (ObsI.cons _ _ _ _ _ _ _ ?o10 (ObsI.cons _ _ _ _ _ _ _ ?o11 (ObsI.cons _ _ _ _ _ _ _ ?o12 (ObsI.cons _ _ _ _ _ _ _ ?o13 (ObsI.cons _ _ _ _ _ _ _ ?o14 (ObsI.cons _ _ _ _ _ _ _ ?o15 (ObsI.nil _ _ _ _ _ _ _))))))))))))))))
              case o0 =>
                intro d vs W hdk hdep hcl hv hX K hK
                go_simp
                exact hK.out _ _ (fun _ => hX.s0 (by decide)) (fun h => absurd h (by decide))
              case o1 =>
                intro d vs W hdk hdep hcl hv hX K hK
                go_simp
                exact hK.out _ _ (fun h => absurd h (by decide)) (fun _ => ⟨rfl, Below.refl _ _⟩)
              case o2 =>
                intro d vs W hdk hdep hcl hv hX K hK
                go_simp
                exact hK.out _ _ (fun h => absurd h (by decide)) (fun _ => ⟨rfl, Below.refl _ _⟩)
              case o3 =>
                intro d vs W hdk hdep hcl hv hX K hK
                have h1 : vs 1 = .slice (some ⟨gi, 0, none⟩) ns ci := hv 1 (by kernel_rfl) (by decide)
                have h2 : vs 2 = .int .i64 (k : Int) := hv 2 (by kernel_rfl) (by decide)
                simp only [Nat.reduceAdd, h1, h2] at hK ⊢
                go_simp
                exact hK.out _ _ (fun h => absurd h (by decide)) (fun _ => ⟨rfl, Below.refl _ _⟩)
              case o4 =>
                intro d vs W hdk hdep hcl hv hX K hK
                have hn3 : d 11 = false := by
                  cases hq : d 11 with
                  | false => rfl
                  | true => exact absurd (hcl 11 _ 4 rfl (by kernel_rfl) hq) (by rw [hdk]; decide)
                have hn4 : d 15 = false := by
                  cases hq : d 15 with
                  | false => rfl
                  | true => exact absurd (hcl 15 _ 11 rfl (by kernel_rfl) hq) (by rw [hn3]; decide)
                have h3 : vs 3 = .slice (some ⟨gi, 0, none⟩) k ci := hv 3 (by kernel_rfl) (by decide)
                have hr0 := hX.c0 (hdep 0 (by kernel_rfl)) hdk
                obtain ⟨v', w', hr, hown, hnn, hg, hat⟩ := runI15 hr0 hX.size 46 ⟨gi, 0, none⟩ k ci (CI.take k) HlA.out (fun j u hu => HcA.out W hX.low j u hu) (one_take15 HoI.out) (by omega)
                rw [Nat.zero_add, List.nil_append] at hown
                apply step_append_run15 (d := .tmp 75) (s := .tmp 78) (t1 := 46) (t2 := 46) (u := vs 0) (x := .slice (some ⟨gi, 0, none⟩) k ci) (v := v') (w' := w')
                case hgd => rfl
                case ho => rfl
                case hd => simp [Act.eval]
                case hs => simp [Act.eval, h3]
                case hrun => exact hr
                case h => exact hK.out _ _ (fun _ => hX.s1 (by decide) (hdep 0 (by kernel_rfl)) hdk hn3 hn4 hown hnn hg hat) (fun h => absurd h (by decide))
              case o5 =>
                intro d vs W hdk hdep hcl hv hX K hK
                go_simp
                exact hK.out _ _ (fun h => absurd h (by decide)) (fun _ => ⟨rfl, Below.refl _ _⟩)
              case o6 =>
                intro d vs W hdk hdep hcl hv hX K hK
                go_simp
                exact hK.out _ _ (fun h => absurd h (by decide)) (fun _ => ⟨rfl, Below.refl _ _⟩)
              case o7 =>
                intro d vs W hdk hdep hcl hv hX K hK
                have h5 : vs 5 = .slice (some ⟨gl, ol, none⟩) n cl := hv 5 (by kernel_rfl) (by decide)
                have h6 : vs 6 = .int .i64 (i : Int) := hv 6 (by kernel_rfl) (by decide)
                simp only [Nat.reduceAdd, h5, h6] at hK ⊢
                go_simp
                exact hK.out _ _ (fun h => absurd h (by decide)) (fun _ => ⟨rfl, Below.refl _ _⟩)
              case o8 =>
                intro d vs W hdk hdep hcl hv hX K hK
                have h7 : vs 7 = .pointer (some ⟨gl, ol + i * 5, none⟩) := hv 7 (by kernel_rfl) (by decide)
                simp only [Nat.reduceAdd, h7] at hK ⊢
                go_simp
                exact hK.out _ _ (fun h => absurd h (by decide)) (fun _ => ⟨rfl, Below.refl _ _⟩)
              case o9 =>
                intro d vs W hdk hdep hcl hv hX K hK
                have h8 : vs 8 = .pointer (some ⟨gl, ol + i * 5, none⟩) := hv 8 (by kernel_rfl) (by decide)
                have c0 := HId.out W hX.low
                simp only [Nat.reduceAdd, h8] at hK ⊢
                go_simp
                exact hK.out _ _ (fun h => absurd h (by decide)) (fun _ => ⟨rfl, Below.refl _ _⟩)
              case o10 =>
                intro d vs W hdk hdep hcl hv hX K hK
                have hn3 : d 11 = false := by
                  cases hq : d 11 with
                  | false => rfl
                  | true => exact absurd (hcl 11 _ 10 rfl (by kernel_rfl) hq) (by rw [hdk]; decide)
                have hn4 : d 15 = false := by
                  cases hq : d 15 with
                  | false => rfl
                  | true => exact absurd (hcl 15 _ 11 rfl (by kernel_rfl) hq) (by rw [hn3]; decide)
                have h9 : vs 9 = .int .i64 xid := hv 9 (by kernel_rfl) (by decide)
                simp only [Nat.reduceAdd, h9] at hK ⊢
                go_simp
                exact hK.out _ _ (fun _ => hX.s2 (by decide) hn3 hn4) (fun h => absurd h (by decide))
              case o11 =>
                intro d vs W hdk hdep hcl hv hX K hK
                have hn4 : d 15 = false := by
                  cases hq : d 15 with
                  | false => rfl
                  | true => exact absurd (hcl 15 _ 11 rfl (by kernel_rfl) hq) (by rw [hdk]; decide)
                have hr0 := hX.c1 (hdep 4 (by kernel_rfl)) hdk
                obtain ⟨b, hx, hb, -, -⟩ := hX.c2 (hdep 10 (by kernel_rfl)) hdk
                obtain ⟨v', w', hr, hown, hnn, hg, -⟩ := runI15 hr0 hX.size 46 ⟨b, 0, none⟩ 1 1 [.int .i64 xid] rfl (fun j u hu => by rw [add_zero15, Nat.zero_add, Lib.cell_of_heap hb]; simpa using hu) (by intro u hu; simp at hu; subst hu; rfl) (by omega)
                apply step_append_run15 (d := .tmp 79) (s := .tmp 85) (t1 := 46) (t2 := 46) (u := vs 4) (x := .slice (some ⟨b, 0, none⟩) 1 1) (v := v') (w' := w')
                case hgd => rfl
                case ho => rfl
                case hd => simp [Act.eval]
                case hs => simp [Act.eval, hx]
                case hrun => exact hr
                case h => exact hK.out _ _ (fun _ => hX.s3 (by decide) (hdep 4 (by kernel_rfl)) hdk hn4 hown hnn hg) (fun h => absurd h (by decide))
              case o12 =>
                intro d vs W hdk hdep hcl hv hX K hK
                go_simp
                exact hK.out _ _ (fun h => absurd h (by decide)) (fun _ => ⟨rfl, Below.refl _ _⟩)
              case o13 =>
                intro d vs W hdk hdep hcl hv hX K hK
                go_simp
                exact hK.out _ _ (fun h => absurd h (by decide)) (fun _ => ⟨rfl, Below.refl _ _⟩)
              case o14 =>
                intro d vs W hdk hdep hcl hv hX K hK
                have h12 : vs 12 = .slice (some ⟨gi, 0, none⟩) ns ci := hv 12 (by kernel_rfl) (by decide)
                have h13 : vs 13 = .int .i64 (k : Int) := hv 13 (by kernel_rfl) (by decide)
                simp only [Nat.reduceAdd, h12, h13] at hK ⊢
                go_simp
                exact hK.out _ _ (fun h => absurd h (by decide)) (fun _ => ⟨rfl, Below.refl _ _⟩)
              case o15 =>
                intro d vs W hdk hdep hcl hv hX K hK
                have h14 : vs 14 = .slice (some ⟨gi, k, none⟩) (ns - k) (ci - k) := hv 14 (by kernel_rfl) (by decide)
                have hd1 : d 4 = true := hcl 11 _ 4 rfl (by kernel_rfl) (hdep 11 (by kernel_rfl))
                have hr0 := hX.c3 (hdep 11 (by kernel_rfl)) hdk
                obtain ⟨v', w', hr, hown, hnn, hg, -⟩ := runI15 hr0 hX.size 46 ⟨gi, k, none⟩ (ns - k) (ci - k) (CI.drop k) HlB.out (fun j u hu => HcB.out W hX.low j u hu) (one_drop15 HoI.out) (by omega)
                apply step_append_run15 (d := .tmp 86) (s := .tmp 89) (t1 := 46) (t2 := 46) (u := vs 11) (x := .slice (some ⟨gi, k, none⟩) (ns - k) (ci - k)) (v := v') (w' := w')
                case hgd => rfl
                case ho => rfl
                case hd => simp [Act.eval]
                case hs => simp [Act.eval, h14]
                case hrun => exact hr
                case h => exact hK.out _ _ (fun _ => hX.s4 (by decide) hd1 (hdep 11 (by kernel_rfl)) hdk hown hnn hg) (fun h => absurd h (by decide))
            case hfin =>
              intro d vs W9 hall hX hv
              have h4 := hX.c4 (hall 15 (by decide))
              rw [HIl.out, HIi.out] at h4
              have HI9 : RowKit.Hid (IN W0.heap.size (vs 15) ((insO ltF S0 (sc, xid)).map (·.2)) W9) := rowE_base (by rw [List.length_map]; exact h4) HN8.out
              have HB9 := Lib.hid (HB8.out.trans (hX.low.mono HB8.out.size))
              have HN9 := Lib.hid HB9.out.size
              have hB9 := H8.out.trans (hX.low.mono H8.out.size)
              obtain ⟨v7, hv7⟩ : ∃ v, vs 15 = v := ⟨_, rfl⟩
              rw [hv7] at HI9
              simp only [Nat.reduceAdd, hv7]
              have HcC := Lib.hid (fun (W : World) (h : Below W9.heap.size W9 W) (j : Nat) (u : Value) (hu : (CS.take k)[j]? = some u) => show W.cell? ((⟨gs, 0, none⟩ : Addr).add j) = some u from by
                rw [add_zero15, Nat.zero_add]
                exact HSc.out W (hB9.trans (h.mono hB9.size)) j u (src_take15 hu))
              have HcD := Lib.hid (fun (W : World) (h : Below W9.heap.size W9 W) (j : Nat) (u : Value) (hu : (CS.drop k)[j]? = some u) => show W.cell? ((⟨gs, k, none⟩ : Addr).add j) = some u from by
                rw [add_zero15]
                exact HSc.out W (hB9.trans (h.mono hB9.size)) (k + j) u (src_drop15 hu))
              clear h4 hX hv hv7 hall hB9 HcA HcB HId H8
              go_simp
              go_upto_region 11 with fail
              apply wp_region_ime (imp := fun i => decide (i ∈ [0, 4, 6, 7, 11])) (X := fun d vs W => Ch 0 4 6 7 11 W9.heap.size W9 3 1 k (ns - k) (CS.take k) [.int .i64 sc] (CS.drop k) d vs W) (V := [(fun _ => True), (fun v => v = .slice (some ⟨gs, 0, none⟩) ns cs), (fun v => v = .int .i64 (k : Int)), (fun v => v = .slice (some ⟨gs, 0, none⟩) k cs), (fun _ => True), (fun v => v = .int .i64 sc), (fun _ => True), (fun _ => True), (fun v => v = .slice (some ⟨gs, 0, none⟩) ns cs), (fun v => v = .int .i64 (k : Int)), (fun v => v = .slice (some ⟨gs, k, none⟩) (ns - k) (cs - k)), (fun _ => True)]) (n := 12) (f := 2)
              case hX0 => exact fun vs => Ch.init (Below.refl _ _).drew (Nat.le_refl _) vs
              case hXst => exact fun d vs u w h hb => h.below hb
              case hXo =>
                intro d vs w i v hi h
                have hi := of_decide_eq_false hi
                simp only [List.mem_cons, List.not_mem_nil, or_false, not_or] at hi
                exact h.other i v (Ne.symm hi.1) (Ne.symm hi.2.1) (Ne.symm hi.2.2.1) (Ne.symm hi.2.2.2.1) (Ne.symm hi.2.2.2.2)
              case hm => kernel_rfl
              case hd => kernel_rfl
              case hb => kernel_rfl
              case hA =>
                intro vs
                simp only [List.take_succ_cons, List.take_zero, puts, Act.put, List.setIfInBounds_toArray, List.set_cons_zero, List.set_cons_succ]
                exact rfl
              case hlast => kernel_rfl
              case hol => exact rfl
              case hob =>
                refine ObsI.cons _ _ _ _ _ _ _ ?o0 (ObsI.cons _ _ _ _ _ _ _ ?o1 (ObsI.cons _ _ _ _ _ _ _ ?o2 (ObsI.cons _ _ _ _ _ _ _ ?o3 (ObsI.cons _ _ _ _ _ _ _ ?o4 (ObsI.cons _ _ _ _ _ _ _ ?o5 (ObsI.cons _ _ _ _ _ _ _ ?o6 (ObsI.cons _ _ _ _ _ _ _ ?o7 (ObsI.cons _ _ _ _ _ _ _ ?o8 (ObsI.cons _ _ _ _ _ _ _ ?o9 (ObsI.cons _ _ _ _ _ _ _ ?o10 (ObsI.cons _ _ _ _ _ _ _ ?o11 (ObsI.nil _ _ _ _ _ _ _))))))))))))
                case o0 =>
                  intro d vs W hdk hdep hcl hv hX K hK
                  go_simp
                  exact hK.out _ _ (fun _ => hX.s0 (by decide)) (fun h => absurd h (by decide))
                case o1 =>
                  intro d vs W hdk hdep hcl hv hX K hK
                  go_simp
                  exact hK.out _ _ (fun h => absurd h (by decide)) (fun _ => ⟨rfl, Below.refl _ _⟩)
                case o2 =>
                  intro d vs W hdk hdep hcl hv hX K hK
                  go_simp
                  exact hK.out _ _ (fun h => absurd h (by decide)) (fun _ => ⟨rfl, Below.refl _ _⟩)
                case o3 =>
                  intro d vs W hdk hdep hcl hv hX K hK
                  have h1 : vs 1 = .slice (some ⟨gs, 0, none⟩) ns cs := hv 1 (by kernel_rfl) (by decide)
                  have h2 : vs 2 = .int .i64 (k : Int) := hv 2 (by kernel_rfl) (by decide)
                  simp only [Nat.reduceAdd, h1, h2] at hK ⊢
                  go_simp
                  exact hK.out _ _ (fun h => absurd h (by decide)) (fun _ => ⟨rfl, Below.refl _ _⟩)
                case o4 =>
                  intro d vs W hdk hdep hcl hv hX K hK
                  have hn3 : d 7 = false := by
                    cases hq : d 7 with
                    | false => rfl
                    | true => exact absurd (hcl 7 _ 4 rfl (by kernel_rfl) hq) (by rw [hdk]; decide)
                  have hn4 : d 11 = false := by
                    cases hq : d 11 with
                    | false => rfl
                    | true => exact absurd (hcl 11 _ 7 rfl (by kernel_rfl) hq) (by rw [hn3]; decide)
                  have h3 : vs 3 = .slice (some ⟨gs, 0, none⟩) k cs := hv 3 (by kernel_rfl) (by decide)
                  have hr0 := hX.c0 (hdep 0 (by kernel_rfl)) hdk
                  obtain ⟨v', w', hr, hown, hnn, hg, hat⟩ := runI15 hr0 hX.size 46 ⟨gs, 0, none⟩ k cs (CS.take k) HlC.out (fun j u hu => HcC.out W hX.low j u hu) (one_take15 HoS.out) (by omega)
                  rw [Nat.zero_add, List.nil_append] at hown
                  apply step_append_run15 (d := .tmp 91) (s := .tmp 94) (t1 := 46) (t2 := 46) (u := vs 0) (x := .slice (some ⟨gs, 0, none⟩) k cs) (v := v') (w' := w')
                  case hgd => rfl
                  case ho => rfl
                  case hd => simp [Act.eval]
                  case hs => simp [Act.eval, h3]
                  case hrun => exact hr
                  case h => exact hK.out _ _ (fun _ => hX.s1 (by decide) (hdep 0 (by kernel_rfl)) hdk hn3 hn4 hown hnn hg hat) (fun h => absurd h (by decide))
                case o5 =>
                  intro d vs W hdk hdep hcl hv hX K hK
                  go_simp
                  exact hK.out _ _ (fun h => absurd h (by decide)) (fun _ => ⟨rfl, Below.refl _ _⟩)
                case o6 =>
                  intro d vs W hdk hdep hcl hv hX K hK
                  have hn3 : d 7 = false := by
                    cases hq : d 7 with
                    | false => rfl
                    | true => exact absurd (hcl 7 _ 6 rfl (by kernel_rfl) hq) (by rw [hdk]; decide)
                  have hn4 : d 11 = false := by
                    cases hq : d 11 with
                    | false => rfl
                    | true => exact absurd (hcl 11 _ 7 rfl (by kernel_rfl) hq) (by rw [hn3]; decide)
                  have h5 : vs 5 = .int .i64 sc := hv 5 (by kernel_rfl) (by decide)
                  simp only [Nat.reduceAdd, h5] at hK ⊢
                  go_simp
                  exact hK.out _ _ (fun _ => hX.s2 (by decide) hn3 hn4) (fun h => absurd h (by decide))
                case o7 =>
                  intro d vs W hdk hdep hcl hv hX K hK
                  have hn4 : d 11 = false := by
                    cases hq : d 11 with
                    | false => rfl
                    | true => exact absurd (hcl 11 _ 7 rfl (by kernel_rfl) hq) (by rw [hdk]; decide)
                  have hr0 := hX.c1 (hdep 4 (by kernel_rfl)) hdk
                  obtain ⟨b, hx, hb, -, -⟩ := hX.c2 (hdep 6 (by kernel_rfl)) hdk
                  obtain ⟨v', w', hr, hown, hnn, hg, -⟩ := runI15 hr0 hX.size 46 ⟨b, 0, none⟩ 1 1 [.int .i64 sc] rfl (fun j u hu => by rw [add_zero15, Nat.zero_add, Lib.cell_of_heap hb]; simpa using hu) (by intro u hu; simp at hu; subst hu; rfl) (by omega)
                  apply step_append_run15 (d := .tmp 95) (s := .tmp 97) (t1 := 46) (t2 := 46) (u := vs 4) (x := .slice (some ⟨b, 0, none⟩) 1 1) (v := v') (w' := w')
                  case hgd => rfl
                  case ho => rfl
                  case hd => simp [Act.eval]
                  case hs => simp [Act.eval, hx]
                  case hrun => exact hr
                  case h => exact hK.out _ _ (fun _ => hX.s3 (by decide) (hdep 4 (by kernel_rfl)) hdk hn4 hown hnn hg) (fun h => absurd h (by decide))
                case o8 =>
                  intro d vs W hdk hdep hcl hv hX K hK
                  go_simp
                  exact hK.out _ _ (fun h => absurd h (by decide)) (fun _ => ⟨rfl, Below.refl _ _⟩)
                case o9 =>
                  intro d vs W hdk hdep hcl hv hX K hK
                  go_simp
                  exact hK.out _ _ (fun h => absurd h (by decide)) (fun _ => ⟨rfl, Below.refl _ _⟩)
                case o10 =>
                  intro d vs W hdk hdep hcl hv hX K hK
                  have h8 : vs 8 = .slice (some ⟨gs, 0, none⟩) ns cs := hv 8 (by kernel_rfl) (by decide)
                  have h9 : vs 9 = .int .i64 (k : Int) := hv 9 (by kernel_rfl) (by decide)
                  simp only [Nat.reduceAdd, h8, h9] at hK ⊢
                  go_simp
                  exact hK.out _ _ (fun h => absurd h (by decide)) (fun _ => ⟨rfl, Below.refl _ _⟩)
                case o11 =>
                  intro d vs W hdk hdep hcl hv hX K hK
                  have h10 : vs 10 = .slice (some ⟨gs, k, none⟩) (ns - k) (cs - k) := hv 10 (by kernel_rfl) (by decide)
                  have hd1 : d 4 = true := hcl 7 _ 4 rfl (by kernel_rfl) (hdep 7 (by kernel_rfl))
                  have hr0 := hX.c3 (hdep 7 (by kernel_rfl)) hdk
                  obtain ⟨v', w', hr, hown, hnn, hg, -⟩ := runI15 hr0 hX.size 46 ⟨gs, k, none⟩ (ns - k) (cs - k) (CS.drop k) HlD.out (fun j u hu => HcD.out W hX.low j u hu) (one_drop15 HoS.out) (by omega)
                  apply step_append_run15 (d := .tmp 98) (s := .tmp 101) (t1 := 46) (t2 := 46) (u := vs 7) (x := .slice (some ⟨gs, k, none⟩) (ns - k) (cs - k)) (v := v') (w' := w')
                  case hgd => rfl
                  case ho => rfl
                  case hd => simp [Act.eval]
                  case hs => simp [Act.eval, h10]
                  case hrun => exact hr
                  case h => exact hK.out _ _ (fun _ => hX.s4 (by decide) hd1 (hdep 7 (by kernel_rfl)) hdk hown hnn hg) (fun h => absurd h (by decide))
              case hfin =>
                intro d vs W hall hX hv
                have h4 := hX.c4 (hall 11 (by decide))
                rw [HIl.out, HIs.out] at h4
                have HS5 : RowKit.Hid (IN W0.heap.size (vs 11) ((insO ltF S0 (sc, xid)).map (·.1)) W) := rowE_base (by rw [List.length_map]; exact h4) HN9.out
                have HI5 := Lib.hid (HI9.out.after hX.low)
                have HB5 := Lib.hid (HB9.out.trans (hX.low.mono HB9.out.size))
                obtain ⟨v8, hv8⟩ : ∃ v, vs 11 = v := ⟨_, rfl⟩
                rw [hv8] at HS5
                simp only [Nat.reduceAdd, hv8]
                clear h4 hX hv hv8 hall
                go_simp
                go_wp2
                go_roundw
                case rel => exact ⟨i + 1, by go_num, by omega, by rw [HS1.out]; exact HI5.out, by rw [HS1.out]; exact HS5.out, HB5.out⟩
                case measure => simp [intOf]; omega
          · obtain rfl : k = ns := by omega
            have hP := HPlc.out k (Nat.le_refl _) HJ.out (fun y hy => by
              have : S0[k]? = none := by rw [List.getElem?_eq_none_iff, HNs.out]; exact Nat.le_refl _
              rw [this] at hy; cases hy)
            have HIi := Lib.hid (HPI.out k hP)
            have HIs := Lib.hid (HPS.out k hP)
            clear HJ HPlc hP HPI HPS HgI HgS
            go_upto_region 8 with fail
            go_quiet (fail)
            clear c0 HDz
            by_cases hck : ci = k
            · obtain rfl : k = ci := hck.symm
              by_cases hdk : cs = k
              · obtain rfl : k = cs := hdk.symm
                go_upto_region 10 with fail
                generalize hW8 : wz.drewN _ = W8
                have hB8 : Below wq.heap.size wq W8 := by rw [← hW8]; exact HBr.out.trans ((below_drewN16 wz _).mono HBr.out.size)
                clear hW8
                have HB8 := Lib.hid (HBq.out.trans (hB8.mono HBq.out.size))
                have H8 := Lib.hid hB8
                have HId := Lib.hid (fun (W : World) (h : Below W8.heap.size W8 W) => (HCz.out W (hB8.trans (h.mono hB8.size))).1)
                have HlA : RowKit.Hid ((CI.take k).length = k) := by unfold RowKit.Hid; rw [List.length_take, HCIl.out]; omega
                have HlB : RowKit.Hid ((CI.drop k).length = 0) := by have := HCIl.out; unfold RowKit.Hid; rw [List.length_drop]; omega
                have HlC : RowKit.Hid ((CS.take k).length = k) := by unfold RowKit.Hid; rw [List.length_take, HCSl.out]; omega
                have HlD : RowKit.Hid ((CS.drop k).length = 0) := by have := HCSl.out; unfold RowKit.Hid; rw [List.length_drop]; omega
                have HIl : RowKit.Hid (k + 1 + 0 = (insO ltF S0 (sc, xid)).length) := by have := HNs.out; unfold RowKit.Hid; rw [insO_len]; omega
                have HcA := Lib.hid (fun (W : World) (h : Below W8.heap.size W8 W) (j : Nat) (u : Value) (hu : (CI.take k)[j]? = some u) => show W.cell? ((⟨gi, 0, none⟩ : Addr).add j) = some u from by
                  rw [add_zero15, Nat.zero_add]
                  exact HIc.out W (hB8.trans (h.mono hB8.size)) j u (src_take15 hu))
                have HcB := Lib.hid (fun (W : World) (_ : Below W8.heap.size W8 W) (j : Nat) (u : Value) (hu : (CI.drop k)[j]? = some u) => show W.cell? ((⟨gi, 0, none⟩ : Addr).add j) = some u from by
                  rw [List.drop_eq_nil_of_le (by rw [HCIl.out]; exact Nat.le_refl _)] at hu
                  simp at hu)
                have HN8 := Lib.hid HB8.out.size
                clear hB8
                apply wp_region_ime (imp := fun i => decide (i ∈ [0, 4, 10, 11, 15])) (X := fun d vs W => Ch 0 4 10 11 15 W8.heap.size W8 3 1 k 0 (CI.take k) [.int .i64 xid] (CI.drop k) d vs W) (V := [(fun _ => True), (fun v => v = .slice (some ⟨gi, 0, none⟩) k k), (fun v => v = .int .i64 (k : Int)), (fun v => v = .slice (some ⟨gi, 0, none⟩) k k), (fun _ => True), (fun v => v = .slice (some ⟨gl, ol, none⟩) n cl), (fun v => v = .int .i64 (i : Int)), (fun v => v = .pointer (some ⟨gl, ol + i * 5, none⟩)), (fun v => v = .pointer (some ⟨gl, ol + i * 5, none⟩)), (fun v => v = .int .i64 xid), (fun _ => True), (fun _ => True), (fun v => v = .slice (some ⟨gi, 0, none⟩) k k), (fun v => v = .int .i64 (k : Int)), (fun v => v = .slice (some ⟨gi, 0, none⟩) 0 0), (fun _ => True)]) (n := 16) (f := 2)
                case hX0 => exact fun vs => Ch.init (Below.refl _ _).drew (Nat.le_refl _) vs
                case hXst => exact fun d vs u w h hb => h.below hb
                case hXo =>
                  intro d vs w i v hi h
                  have hi := of_decide_eq_false hi
                  simp only [List.mem_cons, List.not_mem_nil, or_false, not_or] at hi
                  exact h.other i v (Ne.symm hi.1) (Ne.symm hi.2.1) (Ne.symm hi.2.2.1) (Ne.symm hi.2.2.2.1) (Ne.symm hi.2.2.2.2)
                case hm => kernel_rfl
                case hd => kernel_rfl
                case hb => kernel_rfl
                case hA =>
                  intro vs
                  simp only [List.take_succ_cons, List.take_zero, puts, Act.put, List.setIfInBounds_toArray, List.set_cons_zero, List.set_cons_succ]
                  exact rfl
                case hlast => kernel_rfl
                case hol => exact rfl
                case hob =>
                  refine ObsI.cons _ _ _ _ _ _ _ ?o0 (ObsI.cons _ _ _ _ _ _ _ ?o1 (ObsI.cons _ _ _ _ _ _ _ ?o2 (ObsI.cons _ _ _ _ _ _ _ ?o3 (ObsI.cons _ _ _ _ _ _ _ ?o4 (ObsI.cons _ _ _ _ _ _ _ ?o5 (ObsI.cons _ _ _ _ _ _ _ ?o6 (ObsI.cons _ _ _ _ _ _ _ ?o7 (ObsI.cons _ _ _ _ _ _ _ ?o8 (ObsI.cons _ _ _ _ _ _ _ ?o9 (ObsI.cons _ _ _ _ _ _ _ ?o10 (ObsI.cons _ _ _ _ _ _ _ ?o11 (ObsI.cons _ _ _ _ _ _ _ ?o12 (ObsI.cons _ _ _ _ _ _ _ ?o13 (ObsI.cons _ _ _ _ _ _ _ ?o14 (ObsI.cons _ _ _ _ _ _ _ ?o15 (ObsI.nil _ _ _ _ _ _ _))))))))))))))))
                  case o0 =>
                    intro d vs W hdk hdep hcl hv hX K hK
                    go_simp
                    exact hK.out _ _ (fun _ => hX.s0 (by decide)) (fun h => absurd h (by decide))
                  case o1 =>
                    intro d vs W hdk hdep hcl hv hX K hK
                    go_simp
                    exact hK.out _ _ (fun h => absurd h (by decide)) (fun _ => ⟨rfl, Below.refl _ _⟩)
                  case o2 =>
                    intro d vs W hdk hdep hcl hv hX K hK
                    go_simp
                    exact hK.out _ _ (fun h => absurd h (by decide)) (fun _ => ⟨rfl, Below.refl _ _⟩)
                  case o3 =>
                    intro d vs W hdk hdep hcl hv hX K hK
                    have h1 : vs 1 = .slice (some ⟨gi, 0, none⟩) k k := hv 1 (by kernel_rfl) (by decide)
                    have h2 : vs 2 = .int .i64 (k : Int) := hv 2 (by kernel_rfl) (by decide)
                    simp only [Nat.reduceAdd, h1, h2] at hK ⊢
                    go_simp
                    exact hK.out _ _ (fun h => absurd h (by decide)) (fun _ => ⟨rfl, Below.refl _ _⟩)
                  case o4 =>
                    intro d vs W hdk hdep hcl hv hX K hK
                    have hn3 : d 11 = false := by
                      cases hq : d 11 with
                      | false => rfl
                      | true => exact absurd (hcl 11 _ 4 rfl (by kernel_rfl) hq) (by rw [hdk]; decide)
                    have hn4 : d 15 = false := by
                      cases hq : d 15 with
                      | false => rfl
                      | true => exact absurd (hcl 15 _ 11 rfl (by kernel_rfl) hq) (by rw [hn3]; decide)
                    have h3 : vs 3 = .slice (some ⟨gi, 0, none⟩) k k := hv 3 (by kernel_rfl) (by decide)
                    have hr0 := hX.c0 (hdep 0 (by kernel_rfl)) hdk
                    obtain ⟨v', w', hr, hown, hnn, hg, hat⟩ := runI15 hr0 hX.size 46 ⟨gi, 0, none⟩ k k (CI.take k) HlA.out (fun j u hu => HcA.out W hX.low j u hu) (one_take15 HoI.out) (by omega)
                    rw [Nat.zero_add, List.nil_append] at hown
                    apply step_append_run15 (d := .tmp 75) (s := .tmp 78) (t1 := 46) (t2 := 46) (u := vs 0) (x := .slice (some ⟨gi, 0, none⟩) k k) (v := v') (w' := w')
                    case hgd => rfl
                    case ho => rfl
                    case hd => simp [Act.eval]
                    case hs => simp [Act.eval, h3]
                    case hrun => exact hr
                    case h => exact hK.out _ _ (fun _ => hX.s1 (by decide) (hdep 0 (by kernel_rfl)) hdk hn3 hn4 hown hnn hg hat) (fun h => absurd h (by decide))
                  case o5 =>
                    intro d vs W hdk hdep hcl hv hX K hK
                    go_simp
                    exact hK.out _ _ (fun h => absurd h (by decide)) (fun _ => ⟨rfl, Below.refl _ _⟩)
                  case o6 =>
                    intro d vs W hdk hdep hcl hv hX K hK
                    go_simp
                    exact hK.out _ _ (fun h => absurd h (by decide)) (fun _ => ⟨rfl, Below.refl _ _⟩)
                  case o7 =>
                    intro d vs W hdk hdep hcl hv hX K hK
                    have h5 : vs 5 = .slice (some ⟨gl, ol, none⟩) n cl := hv 5 (by kernel_rfl) (by decide)
                    have h6 : vs 6 = .int .i64 (i : Int) := hv 6 (by kernel_rfl) (by decide)
                    simp only [Nat.reduceAdd, h5, h6] at hK ⊢
                    go_simp
                    exact hK.out _ _ (fun h => absurd h (by decide)) (fun _ => ⟨rfl, Below.refl _ _⟩)
                  case o8 =>
                    intro d vs W hdk hdep hcl hv hX K hK
                    have h7 : vs 7 = .pointer (some ⟨gl, ol + i * 5, none⟩) := hv 7 (by kernel_rfl) (by decide)
                    simp only [Nat.reduceAdd, h7] at hK ⊢
                    go_simp
                    exact hK.out _ _ (fun h => absurd h (by decide)) (fun _ => ⟨rfl, Below.refl _ _⟩)
                  case o9 =>
                    intro d vs W hdk hdep hcl hv hX K hK
                    have h8 : vs 8 = .pointer (some ⟨gl, ol + i * 5, none⟩) := hv 8 (by kernel_rfl) (by decide)
                    have c0 := HId.out W hX.low
                    simp only [Nat.reduceAdd, h8] at hK ⊢
                    go_simp
                    exact hK.out _ _ (fun h => absurd h (by decide)) (fun _ => ⟨rfl, Below.refl _ _⟩)
                  case o10 =>
                    intro d vs W hdk hdep hcl hv hX K hK
                    have hn3 : d 11 = false := by
                      cases hq : d 11 with
                      | false => rfl
                      | true => exact absurd (hcl 11 _ 10 rfl (by kernel_rfl) hq) (by rw [hdk]; decide)
                    have hn4 : d 15 = false := by
                      cases hq : d 15 with
                      | false => rfl
                      | true => exact absurd (hcl 15 _ 11 rfl (by kernel_rfl) hq) (by rw [hn3]; decide)
                    have h9 : vs 9 = .int .i64 xid := hv 9 (by kernel_rfl) (by decide)
                    simp only [Nat.reduceAdd, h9] at hK ⊢
                    go_simp
                    exact hK.out _ _ (fun _ => hX.s2 (by decide) hn3 hn4) (fun h => absurd h (by decide))
                  case o11 =>
                    intro d vs W hdk hdep hcl hv hX K hK
                    have hn4 : d 15 = false := by
                      cases hq : d 15 with
                      | false => rfl
                      | true => exact absurd (hcl 15 _ 11 rfl (by kernel_rfl) hq) (by rw [hdk]; decide)
                    have hr0 := hX.c1 (hdep 4 (by kernel_rfl)) hdk
                    obtain ⟨b, hx, hb, -, -⟩ := hX.c2 (hdep 10 (by kernel_rfl)) hdk
                    obtain ⟨v', w', hr, hown, hnn, hg, -⟩ := runI15 hr0 hX.size 46 ⟨b, 0, none⟩ 1 1 [.int .i64 xid] rfl (fun j u hu => by rw [add_zero15, Nat.zero_add, Lib.cell_of_heap hb]; simpa using hu) (by intro u hu; simp at hu; subst hu; rfl) (by omega)
                    apply step_append_run15 (d := .tmp 79) (s := .tmp 85) (t1 := 46) (t2 := 46) (u := vs 4) (x := .slice (some ⟨b, 0, none⟩) 1 1) (v := v') (w' := w')
                    case hgd => rfl
                    case ho => rfl
                    case hd => simp [Act.eval]
                    case hs => simp [Act.eval, hx]
                    case hrun => exact hr
                    case h => exact hK.out _ _ (fun _ => hX.s3 (by decide) (hdep 4 (by kernel_rfl)) hdk hn4 hown hnn hg) (fun h => absurd h (by decide))
                  case o12 =>
                    intro d vs W hdk hdep hcl hv hX K hK
                    go_simp
                    exact hK.out _ _ (fun h => absurd h (by decide)) (fun _ => ⟨rfl, Below.refl _ _⟩)
                  case o13 =>
                    intro d vs W hdk hdep hcl hv hX K hK
                    go_simp
                    exact hK.out _ _ (fun h => absurd h (by decide)) (fun _ => ⟨rfl, Below.refl _ _⟩)
                  case o14 =>
                    intro d vs W hdk hdep hcl hv hX K hK
                    have h12 : vs 12 = .slice (some ⟨gi, 0, none⟩) k k := hv 12 (by kernel_rfl) (by decide)
                    have h13 : vs 13 = .int .i64 (k : Int) := hv 13 (by kernel_rfl) (by decide)
                    simp only [Nat.reduceAdd, h12, h13] at hK ⊢
                    go_simp
                    exact hK.out _ _ (fun h => absurd h (by decide)) (fun _ => ⟨rfl, Below.refl _ _⟩)
                  case o15 =>
                    intro d vs W hdk hdep hcl hv hX K hK
                    have h14 : vs 14 = .slice (some ⟨gi, 0, none⟩) 0 0 := hv 14 (by kernel_rfl) (by decide)
                    have hd1 : d 4 = true := hcl 11 _ 4 rfl (by kernel_rfl) (hdep 11 (by kernel_rfl))
                    have hr0 := hX.c3 (hdep 11 (by kernel_rfl)) hdk
                    obtain ⟨v', w', hr, hown, hnn, hg, -⟩ := runI15 hr0 hX.size 46 ⟨gi, 0, none⟩ 0 0 (CI.drop k) HlB.out (fun j u hu => HcB.out W hX.low j u hu) (one_drop15 HoI.out) (by omega)
                    apply step_append_run15 (d := .tmp 86) (s := .tmp 89) (t1 := 46) (t2 := 46) (u := vs 11) (x := .slice (some ⟨gi, 0, none⟩) 0 0) (v := v') (w' := w')
                    case hgd => rfl
                    case ho => rfl
                    case hd => simp [Act.eval]
                    case hs => simp [Act.eval, h14]
                    case hrun => exact hr
                    case h => exact hK.out _ _ (fun _ => hX.s4 (by decide) hd1 (hdep 11 (by kernel_rfl)) hdk hown hnn hg) (fun h => absurd h (by decide))
                case hfin =>
                  intro d vs W9 hall hX hv
                  have h4 := hX.c4 (hall 15 (by decide))
                  rw [HIl.out, HIi.out] at h4
                  have HI9 : RowKit.Hid (IN W0.heap.size (vs 15) ((insO ltF S0 (sc, xid)).map (·.2)) W9) := rowE_base (by rw [List.length_map]; exact h4) HN8.out
                  have HB9 := Lib.hid (HB8.out.trans (hX.low.mono HB8.out.size))
                  have HN9 := Lib.hid HB9.out.size
                  have hB9 := H8.out.trans (hX.low.mono H8.out.size)
                  obtain ⟨v7, hv7⟩ : ∃ v, vs 15 = v := ⟨_, rfl⟩
                  rw [hv7] at HI9
                  simp only [Nat.reduceAdd, hv7]
                  have HcC := Lib.hid (fun (W : World) (h : Below W9.heap.size W9 W) (j : Nat) (u : Value) (hu : (CS.take k)[j]? = some u) => show W.cell? ((⟨gs, 0, none⟩ : Addr).add j) = some u from by
                    rw [add_zero15, Nat.zero_add]
                    exact HSc.out W (hB9.trans (h.mono hB9.size)) j u (src_take15 hu))
                  have HcD := Lib.hid (fun (W : World) (_ : Below W9.heap.size W9 W) (j : Nat) (u : Value) (hu : (CS.drop k)[j]? = some u) => show W.cell? ((⟨gs, 0, none⟩ : Addr).add j) = some u from by
                    rw [List.drop_eq_nil_of_le (by rw [HCSl.out]; exact Nat.le_refl _)] at hu
                    simp at hu)
                  clear h4 hX hv hv7 hall hB9 HcA HcB HId H8
                  go_simp
                  go_upto_region 11 with fail
                  apply wp_region_ime (imp := fun i => decide (i ∈ [0, 4, 6, 7, 11])) (X := fun d vs W => Ch 0 4 6 7 11 W9.heap.size W9 3 1 k 0 (CS.take k) [.int .i64 sc] (CS.drop k) d vs W) (V := [(fun _ => True), (fun v => v = .slice (some ⟨gs, 0, none⟩) k k), (fun v => v = .int .i64 (k : Int)), (fun v => v = .slice (some ⟨gs, 0, none⟩) k k), (fun _ => True), (fun v => v = .int .i64 sc), (fun _ => True), (fun _ => True), (fun v => v = .slice (some ⟨gs, 0, none⟩) k k), (fun v => v = .int .i64 (k : Int)), (fun v => v = .slice (some ⟨gs, 0, none⟩) 0 0), (fun _ => True)]) (n := 12) (f := 2)
                  case hX0 => exact fun vs => Ch.init (Below.refl _ _).drew (Nat.le_refl _) vs
                  case hXst => exact fun d vs u w h hb => h.below hb
                  case hXo =>
                    intro d vs w i v hi h
                    have hi := of_decide_eq_false hi
                    simp only [List.mem_cons, List.not_mem_nil, or_false, not_or] at hi
                    exact h.other i v (Ne.symm hi.1) (Ne.symm hi.2.1) (Ne.symm hi.2.2.1) (Ne.symm hi.2.2.2.1) (Ne.symm hi.2.2.2.2)
                  case hm => kernel_rfl
                  case hd => kernel_rfl
                  case hb => kernel_rfl
                  case hA =>
                    intro vs
                    simp only [List.take_succ_cons, List.take_zero, puts, Act.put, List.setIfInBounds_toArray, List.set_cons_zero, List.set_cons_succ]
                    exact rfl
                  case hlast => kernel_rfl
                  case hol => exact rfl
                  case hob =>
                    refine ObsI.cons _ _ _ _ _ _ _ ?o0 (ObsI.cons _ _ _ _ _ _ _ ?o1 (ObsI.cons _ _ _ _ _ _ _ ?o2 (ObsI.cons _ _ _ _ _ _ _ ?o3 (ObsI.cons _ _ _ _ _ _ _ ?o4 (ObsI.cons _ _ _ _ _ _ _ ?o5 (ObsI.cons _ _ _ _ _ _ _ ?o6 (ObsI.cons _ _ _ _ _ _ _ ?o7 (ObsI.cons _ _ _ _ _ _ _ ?o8 (ObsI.cons _ _ _ _ _ _ _ ?o9 (ObsI.cons _ _ _ _ _ _ _ ?o10 (ObsI.cons _ _ _ _ _ _ _ ?o11 (ObsI.nil _ _ _ _ _ _ _))))))))))))
                    case o0 =>
                      intro d vs W hdk hdep hcl hv hX K hK
                      go_simp
                      exact hK.out _ _ (fun _ => hX.s0 (by decide)) (fun h => absurd h (by decide))
                    case o1 =>
                      intro d vs W hdk hdep hcl hv hX K hK
                      go_simp
                      exact hK.out _ _ (fun h => absurd h (by decide)) (fun _ => ⟨rfl, Below.refl _ _⟩)
                    case o2 =>
                      intro d vs W hdk hdep hcl hv hX K hK
                      go_simp
                      exact hK.out _ _ (fun h => absurd h (by decide)) (fun _ => ⟨rfl, Below.refl _ _⟩)
                    case o3 =>
                      intro d vs W hdk hdep hcl hv hX K hK
                      have h1 : vs 1 = .slice (some ⟨gs, 0, none⟩) k k := hv 1 (by kernel_rfl) (by decide)
                      have h2 : vs 2 = .int .i64 (k : Int) := hv 2 (by kernel_rfl) (by decide)
                      simp only [Nat.reduceAdd, h1, h2] at hK ⊢
                      go_simp
                      exact hK.out _ _ (fun h => absurd h (by decide)) (fun _ => ⟨rfl, Below.refl _ _⟩)
                    case o4 =>
                      intro d vs W hdk hdep hcl hv hX K hK
                      have hn3 : d 7 = false := by
                        cases hq : d 7 with
                        | false => rfl
                        | true => exact absurd (hcl 7 _ 4 rfl (by kernel_rfl) hq) (by rw [hdk]; decide)
                      have hn4 : d 11 = false := by
                        cases hq : d 11 with
                        | false => rfl
                        | true => exact absurd (hcl 11 _ 7 rfl (by kernel_rfl) hq) (by rw [hn3]; decide)
                      have h3 : vs 3 = .slice (some ⟨gs, 0, none⟩) k k := hv 3 (by kernel_rfl) (by decide)
                      have hr0 := hX.c0 (hdep 0 (by kernel_rfl)) hdk
                      obtain ⟨v', w', hr, hown, hnn, hg, hat⟩ := runI15 hr0 hX.size 46 ⟨gs, 0, none⟩ k k (CS.take k) HlC.out (fun j u hu => HcC.out W hX.low j u hu) (one_take15 HoS.out) (by omega)
                      rw [Nat.zero_add, List.nil_append] at hown
                      apply step_append_run15 (d := .tmp 91) (s := .tmp 94) (t1 := 46) (t2 := 46) (u := vs 0) (x := .slice (some ⟨gs, 0, none⟩) k k) (v := v') (w' := w')
                      case hgd => rfl
                      case ho => rfl
                      case hd => simp [Act.eval]
                      case hs => simp [Act.eval, h3]
                      case hrun => exact hr
                      case h => exact hK.out _ _ (fun _ => hX.s1 (by decide) (hdep 0 (by kernel_rfl)) hdk hn3 hn4 hown hnn hg hat) (fun h => absurd h (by decide))
                    case o5 =>
                      intro d vs W hdk hdep hcl hv hX K hK
                      go_simp
                      exact hK.out _ _ (fun h => absurd h (by decide)) (fun _ => ⟨rfl, Below.refl _ _⟩)
                    case o6 =>
                      intro d vs W hdk hdep hcl hv hX K hK
                      have hn3 : d 7 = false := by
                        cases hq : d 7 with
                        | false => rfl
                        | true => exact absurd (hcl 7 _ 6 rfl (by kernel_rfl) hq) (by rw [hdk]; decide)
                      have hn4 : d 11 = false := by
                        cases hq : d 11 with
                        | false => rfl
                        | true => exact absurd (hcl 11 _ 7 rfl (by kernel_rfl) hq) (by rw [hn3]; decide)
                      have h5 : vs 5 = .int .i64 sc := hv 5 (by kernel_rfl) (by decide)
                      simp only [Nat.reduceAdd, h5] at hK ⊢
                      go_simp
                      exact hK.out _ _ (fun _ => hX.s2 (by decide) hn3 hn4) (fun h => absurd h (by decide))
                    case o7 =>
                      intro d vs W hdk hdep hcl hv hX K hK
                      have hn4 : d 11 = false := by
                        cases hq : d 11 with
                        | false => rfl
                        | true => exact absurd (hcl 11 _ 7 rfl (by kernel_rfl) hq) (by rw [hdk]; decide)
                      have hr0 := hX.c1 (hdep 4 (by kernel_rfl)) hdk
                      obtain ⟨b, hx, hb, -, -⟩ := hX.c2 (hdep 6 (by kernel_rfl)) hdk
                      obtain ⟨v', w', hr, hown, hnn, hg, -⟩ := runI15 hr0 hX.size 46 ⟨b, 0, none⟩ 1 1 [.int .i64 sc] rfl (fun j u hu => by rw [add_zero15, Nat.zero_add, Lib.cell_of_heap hb]; simpa using hu) (by intro u hu; simp at hu; subst hu; rfl) (by omega)
                      apply step_append_run15 (d := .tmp 95) (s := .tmp 97) (t1 := 46) (t2 := 46) (u := vs 4) (x := .slice (some ⟨b, 0, none⟩) 1 1) (v := v') (w' := w')
                      case hgd => rfl
                      case ho => rfl
                      case hd => simp [Act.eval]
                      case hs => simp [Act.eval, hx]
                      case hrun => exact hr
                      case h => exact hK.out _ _ (fun _ => hX.s3 (by decide) (hdep 4 (by kernel_rfl)) hdk hn4 hown hnn hg) (fun h => absurd h (by decide))
                    case o8 =>
                      intro d vs W hdk hdep hcl hv hX K hK
                      go_simp
                      exact hK.out _ _ (fun h => absurd h (by decide)) (fun _ => ⟨rfl, Below.refl _ _⟩)
                    case o9 =>
                      intro d vs W hdk hdep hcl hv hX K hK
                      go_simp
                      exact hK.out _ _ (fun h => absurd h (by decide)) (fun _ => ⟨rfl, Below.refl _ _⟩)
                    case o10 =>
                      intro d vs W hdk hdep hcl hv hX K hK
                      have h8 : vs 8 = .slice (some ⟨gs, 0, none⟩) k k := hv 8 (by kernel_rfl) (by decide)
                      have h9 : vs 9 = .int .i64 (k : Int) := hv 9 (by kernel_rfl) (by decide)
                      simp only [Nat.reduceAdd, h8, h9] at hK ⊢
                      go_simp
                      exact hK.out _ _ (fun h => absurd h (by decide)) (fun _ => ⟨rfl, Below.refl _ _⟩)
                    case o11 =>
                      intro d vs W hdk hdep hcl hv hX K hK
                      have h10 : vs 10 = .slice (some ⟨gs, 0, none⟩) 0 0 := hv 10 (by kernel_rfl) (by decide)
                      have hd1 : d 4 = true := hcl 7 _ 4 rfl (by kernel_rfl) (hdep 7 (by kernel_rfl))
                      have hr0 := hX.c3 (hdep 7 (by kernel_rfl)) hdk
                      obtain ⟨v', w', hr, hown, hnn, hg, -⟩ := runI15 hr0 hX.size 46 ⟨gs, 0, none⟩ 0 0 (CS.drop k) HlD.out (fun j u hu => HcD.out W hX.low j u hu) (one_drop15 HoS.out) (by omega)
                      apply step_append_run15 (d := .tmp 98) (s := .tmp 101) (t1 := 46) (t2 := 46) (u := vs 7) (x := .slice (some ⟨gs, 0, none⟩) 0 0) (v := v') (w' := w')
                      case hgd => rfl
                      case ho => rfl
                      case hd => simp [Act.eval]
                      case hs => simp [Act.eval, h10]
                      case hrun => exact hr
                      case h => exact hK.out _ _ (fun _ => hX.s4 (by decide) hd1 (hdep 7 (by kernel_rfl)) hdk hown hnn hg) (fun h => absurd h (by decide))
                  case hfin =>
                    intro d vs W hall hX hv
                    have h4 := hX.c4 (hall 11 (by decide))
                    rw [HIl.out, HIs.out] at h4
                    have HS5 : RowKit.Hid (IN W0.heap.size (vs 11) ((insO ltF S0 (sc, xid)).map (·.1)) W) := rowE_base (by rw [List.length_map]; exact h4) HN9.out
                    have HI5 := Lib.hid (HI9.out.after hX.low)
                    have HB5 := Lib.hid (HB9.out.trans (hX.low.mono HB9.out.size))
                    obtain ⟨v8, hv8⟩ : ∃ v, vs 11 = v := ⟨_, rfl⟩
                    rw [hv8] at HS5
                    simp only [Nat.reduceAdd, hv8]
                    clear h4 hX hv hv8 hall
                    go_simp
                    go_wp2
                    go_roundw
                    case rel => exact ⟨i + 1, by go_num, by omega, by rw [HS1.out]; exact HI5.out, by rw [HS1.out]; exact HS5.out, HB5.out⟩
                    case measure => simp [intOf]; omega
              · skip
                go_upto_region 10 with fail
                generalize hW8 : wz.drewN _ = W8
                have hB8 : Below wq.heap.size wq W8 := by rw [← hW8]; exact HBr.out.trans ((below_drewN16 wz _).mono HBr.out.size)
                clear hW8
                have HB8 := Lib.hid (HBq.out.trans (hB8.mono HBq.out.size))
                have H8 := Lib.hid hB8
                have HId := Lib.hid (fun (W : World) (h : Below W8.heap.size W8 W) => (HCz.out W (hB8.trans (h.mono hB8.size))).1)
                have HlA : RowKit.Hid ((CI.take k).length = k) := by unfold RowKit.Hid; rw [List.length_take, HCIl.out]; omega
                have HlB : RowKit.Hid ((CI.drop k).length = 0) := by have := HCIl.out; unfold RowKit.Hid; rw [List.length_drop]; omega
                have HlC : RowKit.Hid ((CS.take k).length = k) := by unfold RowKit.Hid; rw [List.length_take, HCSl.out]; omega
                have HlD : RowKit.Hid ((CS.drop k).length = 0) := by have := HCSl.out; unfold RowKit.Hid; rw [List.length_drop]; omega
                have HIl : RowKit.Hid (k + 1 + 0 = (insO ltF S0 (sc, xid)).length) := by have := HNs.out; unfold RowKit.Hid; rw [insO_len]; omega
                have HcA := Lib.hid (fun (W : World) (h : Below W8.heap.size W8 W) (j : Nat) (u : Value) (hu : (CI.take k)[j]? = some u) => show W.cell? ((⟨gi, 0, none⟩ : Addr).add j) = some u from by
                  rw [add_zero15, Nat.zero_add]
                  exact HIc.out W (hB8.trans (h.mono hB8.size)) j u (src_take15 hu))
                have HcB := Lib.hid (fun (W : World) (_ : Below W8.heap.size W8 W) (j : Nat) (u : Value) (hu : (CI.drop k)[j]? = some u) => show W.cell? ((⟨gi, 0, none⟩ : Addr).add j) = some u from by
                  rw [List.drop_eq_nil_of_le (by rw [HCIl.out]; exact Nat.le_refl _)] at hu
                  simp at hu)
                have HN8 := Lib.hid HB8.out.size
                clear hB8
                apply wp_region_ime (imp := fun i => decide (i ∈ [0, 4, 10, 11, 15])) (X := fun d vs W => Ch 0 4 10 11 15 W8.heap.size W8 3 1 k 0 (CI.take k) [.int .i64 xid] (CI.drop k) d vs W) (V := [(fun _ => True), (fun v => v = .slice (some ⟨gi, 0, none⟩) k k), (fun v => v = .int .i64 (k : Int)), (fun v => v = .slice (some ⟨gi, 0, none⟩) k k), (fun _ => True), (fun v => v = .slice (some ⟨gl, ol, none⟩) n cl), (fun v => v = .int .i64 (i : Int)), (fun v => v = .pointer (some ⟨gl, ol + i * 5, none⟩)), (fun v => v = .pointer (some ⟨gl, ol + i * 5, none⟩)), (fun v => v = .int .i64 xid), (fun _ => True), (fun _ => True), (fun v => v = .slice (some ⟨gi, 0, none⟩) k k), (fun v => v = .int .i64 (k : Int)), (fun v => v = .slice (some ⟨gi, 0, none⟩) 0 0), (fun _ => True)]) (n := 16) (f := 2)
                case hX0 => exact fun vs => Ch.init (Below.refl _ _).drew (Nat.le_refl _) vs
                case hXst => exact fun d vs u w h hb => h.below hb
                case hXo =>
                  intro d vs w i v hi h
                  have hi := of_decide_eq_false hi
                  simp only [List.mem_cons, List.not_mem_nil, or_false, not_or] at hi
                  exact h.other i v (Ne.symm hi.1) (Ne.symm hi.2.1) (Ne.symm hi.2.2.1) (Ne.symm hi.2.2.2.1) (Ne.symm hi.2.2.2.2)
                case hm => kernel_rfl
                case hd => kernel_rfl
                case hb => kernel_rfl
                case hA =>
                  intro vs
                  simp only [List.take_succ_cons, List.take_zero, puts, Act.put, List.setIfInBounds_toArray, List.set_cons_zero, List.set_cons_succ]
                  exact rfl
                case hlast => kernel_rfl
                case hol => exact rfl
                case hob =>
                  refine ObsI.cons _ _ _ _ _ _ _ ?o0 (ObsI.cons _ _ _ _ _ _ _ ?o1 (ObsI.cons _ _ _ _ _ _ _ ?o2 (ObsI.cons _ _ _ _ _ _ _ ?o3 (ObsI.cons _ _ _ _ _ _ _ ?o4 (ObsI.cons _ _ _ _ _ _ _ ?o5 (ObsI.cons _ _ _ _ _ _ _ ?o6 (ObsI.cons _ _ _ _ _ _ _ ?o7 (ObsI.cons _ _ _ _ _ _ _ ?o8 (ObsI.cons _ _ _ _ _ _ _ ?o9 (ObsI.cons _ _ _ _ _ _ _ ?o10 (ObsI.cons _ _ _ _ _ _ _ ?o11 (ObsI.cons _ _ _ _ _ _ _ ?o12 (ObsI.cons _ _ _ _ _ _ _ ?o13 (ObsI.cons _ _ _ _ _ _ _ ?o14 (ObsI.cons _ _ _ _ _ _ _ ?o15 (ObsI.nil _ _ _ _ _ _ _))))))))))))))))
                  case o0 =>
                    intro d vs W hdk hdep hcl hv hX K hK
                    go_simp
                    exact hK.out _ _ (fun _ => hX.s0 (by decide)) (fun h => absurd h (by decide))
                  case o1 =>
                    intro d vs W hdk hdep hcl hv hX K hK
                    go_simp
                    exact hK.out _ _ (fun h => absurd h (by decide)) (fun _ => ⟨rfl, Below.refl _ _⟩)
                  case o2 =>
                    intro d vs W hdk hdep hcl hv hX K hK
                    go_simp
                    exact hK.out _ _ (fun h => absurd h (by decide)) (fun _ => ⟨rfl, Below.refl _ _⟩)
                  case o3 =>
                    intro d vs W hdk hdep hcl hv hX K hK
                    have h1 : vs 1 = .slice (some ⟨gi, 0, none⟩) k k := hv 1 (by kernel_rfl) (by decide)
                    have h2 : vs 2 = .int .i64 (k : Int) := hv 2 (by kernel_rfl) (by decide)
                    simp only [Nat.reduceAdd, h1, h2] at hK ⊢
                    go_simp
                    exact hK.out _ _ (fun h => absurd h (by decide)) (fun _ => ⟨rfl, Below.refl _ _⟩)
                  case o4 =>
                    intro d vs W hdk hdep hcl hv hX K hK
                    have hn3 : d 11 = false := by
                      cases hq : d 11 with
                      | false => rfl
                      | true => exact absurd (hcl 11 _ 4 rfl (by kernel_rfl) hq) (by rw [hdk]; decide)
                    have hn4 : d 15 = false := by
                      cases hq : d 15 with
                      | false => rfl
                      | true => exact absurd (hcl 15 _ 11 rfl (by kernel_rfl) hq) (by rw [hn3]; decide)
                    have h3 : vs 3 = .slice (some ⟨gi, 0, none⟩) k k := hv 3 (by kernel_rfl) (by decide)
                    have hr0 := hX.c0 (hdep 0 (by kernel_rfl)) hdk
                    obtain ⟨v', w', hr, hown, hnn, hg, hat⟩ := runI15 hr0 hX.size 46 ⟨gi, 0, none⟩ k k (CI.take k) HlA.out (fun j u hu => HcA.out W hX.low j u hu) (one_take15 HoI.out) (by omega)
                    rw [Nat.zero_add, List.nil_append] at hown
                    apply step_append_run15 (d := .tmp 75) (s := .tmp 78) (t1 := 46) (t2 := 46) (u := vs 0) (x := .slice (some ⟨gi, 0, none⟩) k k) (v := v') (w' := w')
                    case hgd => rfl
                    case ho => rfl
                    case hd => simp [Act.eval]
                    case hs => simp [Act.eval, h3]
                    case hrun => exact hr
                    case h => exact hK.out _ _ (fun _ => hX.s1 (by decide) (hdep 0 (by kernel_rfl)) hdk hn3 hn4 hown hnn hg hat) (fun h => absurd h (by decide))
                  case o5 =>
                    intro d vs W hdk hdep hcl hv hX K hK
                    go_simp
                    exact hK.out _ _ (fun h => absurd h (by decide)) (fun _ => ⟨rfl, Below.refl _ _⟩)
                  case o6 =>
                    intro d vs W hdk hdep hcl hv hX K hK
                    go_simp
                    exact hK.out _ _ (fun h => absurd h (by decide)) (fun _ => ⟨rfl, Below.refl _ _⟩)
                  case o7 =>
                    intro d vs W hdk hdep hcl hv hX K hK
                    have h5 : vs 5 = .slice (some ⟨gl, ol, none⟩) n cl := hv 5 (by kernel_rfl) (by decide)
                    have h6 : vs 6 = .int .i64 (i : Int) := hv 6 (by kernel_rfl) (by decide)
                    simp only [Nat.reduceAdd, h5, h6] at hK ⊢
                    go_simp
                    exact hK.out _ _ (fun h => absurd h (by decide)) (fun _ => ⟨rfl, Below.refl _ _⟩)
                  case o8 =>
                    intro d vs W hdk hdep hcl hv hX K hK
                    have h7 : vs 7 = .pointer (some ⟨gl, ol + i * 5, none⟩) := hv 7 (by kernel_rfl) (by decide)
                    simp only [Nat.reduceAdd, h7] at hK ⊢
                    go_simp
                    exact hK.out _ _ (fun h => absurd h (by decide)) (fun _ => ⟨rfl, Below.refl _ _⟩)
                  case o9 =>
                    intro d vs W hdk hdep hcl hv hX K hK
                    have h8 : vs 8 = .pointer (some ⟨gl, ol + i * 5, none⟩) := hv 8 (by kernel_rfl) (by decide)
                    have c0 := HId.out W hX.low
                    simp only [Nat.reduceAdd, h8] at hK ⊢
                    go_simp
                    exact hK.out _ _ (fun h => absurd h (by decide)) (fun _ => ⟨rfl, Below.refl _ _⟩)
                  case o10 =>
                    intro d vs W hdk hdep hcl hv hX K hK
                    have hn3 : d 11 = false := by
                      cases hq : d 11 with
                      | false => rfl
                      | true => exact absurd (hcl 11 _ 10 rfl (by kernel_rfl) hq) (by rw [hdk]; decide)
                    have hn4 : d 15 = false := by
                      cases hq : d 15 with
                      | false => rfl
                      | true => exact absurd (hcl 15 _ 11 rfl (by kernel_rfl) hq) (by rw [hn3]; decide)
                    have h9 : vs 9 = .int .i64 xid := hv 9 (by kernel_rfl) (by decide)
                    simp only [Nat.reduceAdd, h9] at hK ⊢
                    go_simp
                    exact hK.out _ _ (fun _ => hX.s2 (by decide) hn3 hn4) (fun h => absurd h (by decide))
                  case o11 =>
                    intro d vs W hdk hdep hcl hv hX K hK
                    have hn4 : d 15 = false := by
                      cases hq : d 15 with
                      | false => rfl
                      | true => exact absurd (hcl 15 _ 11 rfl (by kernel_rfl) hq) (by rw [hdk]; decide)
                    have hr0 := hX.c1 (hdep 4 (by kernel_rfl)) hdk
                    obtain ⟨b, hx, hb, -, -⟩ := hX.c2 (hdep 10 (by kernel_rfl)) hdk
                    obtain ⟨v', w', hr, hown, hnn, hg, -⟩ := runI15 hr0 hX.size 46 ⟨b, 0, none⟩ 1 1 [.int .i64 xid] rfl (fun j u hu => by rw [add_zero15, Nat.zero_add, Lib.cell_of_heap hb]; simpa using hu) (by intro u hu; simp at hu; subst hu; rfl) (by omega)
                    apply step_append_run15 (d := .tmp 79) (s := .tmp 85) (t1 := 46) (t2 := 46) (u := vs 4) (x := .slice (some ⟨b, 0, none⟩) 1 1) (v := v') (w' := w')
                    case hgd => rfl
                    case ho => rfl
                    case hd => simp [Act.eval]
                    case hs => simp [Act.eval, hx]
                    case hrun => exact hr
                    case h => exact hK.out _ _ (fun _ => hX.s3 (by decide) (hdep 4 (by kernel_rfl)) hdk hn4 hown hnn hg) (fun h => absurd h (by decide))
                  case o12 =>
                    intro d vs W hdk hdep hcl hv hX K hK
                    go_simp
                    exact hK.out _ _ (fun h => absurd h (by decide)) (fun _ => ⟨rfl, Below.refl _ _⟩)
                  case o13 =>
                    intro d vs W hdk hdep hcl hv hX K hK
                    go_simp
                    exact hK.out _ _ (fun h => absurd h (by decide)) (fun _ => ⟨rfl, Below.refl _ _⟩)
                  case o14 =>
                    intro d vs W hdk hdep hcl hv hX K hK
                    have h12 : vs 12 = .slice (some ⟨gi, 0, none⟩) k k := hv 12 (by kernel_rfl) (by decide)
                    have h13 : vs 13 = .int .i64 (k : Int) := hv 13 (by kernel_rfl) (by decide)
                    simp only [Nat.reduceAdd, h12, h13] at hK ⊢
                    go_simp
                    exact hK.out _ _ (fun h => absurd h (by decide)) (fun _ => ⟨rfl, Below.refl _ _⟩)
                  case o15 =>
                    intro d vs W hdk hdep hcl hv hX K hK
                    have h14 : vs 14 = .slice (some ⟨gi, 0, none⟩) 0 0 := hv 14 (by kernel_rfl) (by decide)
                    have hd1 : d 4 = true := hcl 11 _ 4 rfl (by kernel_rfl) (hdep 11 (by kernel_rfl))
                    have hr0 := hX.c3 (hdep 11 (by kernel_rfl)) hdk
                    obtain ⟨v', w', hr, hown, hnn, hg, -⟩ := runI15 hr0 hX.size 46 ⟨gi, 0, none⟩ 0 0 (CI.drop k) HlB.out (fun j u hu => HcB.out W hX.low j u hu) (one_drop15 HoI.out) (by omega)
                    apply step_append_run15 (d := .tmp 86) (s := .tmp 89) (t1 := 46) (t2 := 46) (u := vs 11) (x := .slice (some ⟨gi, 0, none⟩) 0 0) (v := v') (w' := w')
                    case hgd => rfl
                    case ho => rfl
                    case hd => simp [Act.eval]
                    case hs => simp [Act.eval, h14]
                    case hrun => exact hr
                    case h => exact hK.out _ _ (fun _ => hX.s4 (by decide) hd1 (hdep 11 (by kernel_rfl)) hdk hown hnn hg) (fun h => absurd h (by decide))
                case hfin =>
                  intro d vs W9 hall hX hv
                  have h4 := hX.c4 (hall 15 (by decide))
                  rw [HIl.out, HIi.out] at h4
                  have HI9 : RowKit.Hid (IN W0.heap.size (vs 15) ((insO ltF S0 (sc, xid)).map (·.2)) W9) := rowE_base (by rw [List.length_map]; exact h4) HN8.out
                  have HB9 := Lib.hid (HB8.out.trans (hX.low.mono HB8.out.size))
                  have HN9 := Lib.hid HB9.out.size
                  have hB9 := H8.out.trans (hX.low.mono H8.out.size)
                  obtain ⟨v7, hv7⟩ : ∃ v, vs 15 = v := ⟨_, rfl⟩
                  rw [hv7] at HI9
                  simp only [Nat.reduceAdd, hv7]
                  have HcC := Lib.hid (fun (W : World) (h : Below W9.heap.size W9 W) (j : Nat) (u : Value) (hu : (CS.take k)[j]? = some u) => show W.cell? ((⟨gs, 0, none⟩ : Addr).add j) = some u from by
                    rw [add_zero15, Nat.zero_add]
                    exact HSc.out W (hB9.trans (h.mono hB9.size)) j u (src_take15 hu))
                  have HcD := Lib.hid (fun (W : World) (h : Below W9.heap.size W9 W) (j : Nat) (u : Value) (hu : (CS.drop k)[j]? = some u) => show W.cell? ((⟨gs, k, none⟩ : Addr).add j) = some u from by
                    rw [add_zero15]
                    exact HSc.out W (hB9.trans (h.mono hB9.size)) (k + j) u (src_drop15 hu))
                  clear h4 hX hv hv7 hall hB9 HcA HcB HId H8
                  go_simp
                  go_upto_region 11 with fail
                  apply wp_region_ime (imp := fun i => decide (i ∈ [0, 4, 6, 7, 11])) (X := fun d vs W => Ch 0 4 6 7 11 W9.heap.size W9 3 1 k 0 (CS.take k) [.int .i64 sc] (CS.drop k) d vs W) (V := [(fun _ => True), (fun v => v = .slice (some ⟨gs, 0, none⟩) k cs), (fun v => v = .int .i64 (k : Int)), (fun v => v = .slice (some ⟨gs, 0, none⟩) k cs), (fun _ => True), (fun v => v = .int .i64 sc), (fun _ => True), (fun _ => True), (fun v => v = .slice (some ⟨gs, 0, none⟩) k cs), (fun v => v = .int .i64 (k : Int)), (fun v => v = .slice (some ⟨gs, k, none⟩) 0 (cs - k)), (fun _ => True)]) (n := 12) (f := 2)
                  case hX0 => exact fun vs => Ch.init (Below.refl _ _).drew (Nat.le_refl _) vs
                  case hXst => exact fun d vs u w h hb => h.below hb
                  case hXo =>
                    intro d vs w i v hi h
                    have hi := of_decide_eq_false hi
                    simp only [List.mem_cons, List.not_mem_nil, or_false, not_or] at hi
                    exact h.other i v (Ne.symm hi.1) (Ne.symm hi.2.1) (Ne.symm hi.2.2.1) (Ne.symm hi.2.2.2.1) (Ne.symm hi.2.2.2.2)
                  case hm => kernel_rfl
                  case hd => kernel_rfl
                  case hb => kernel_rfl
                  case hA =>
                    intro vs
                    simp only [List.take_succ_cons, List.take_zero, puts, Act.put, List.setIfInBounds_toArray, List.set_cons_zero, List.set_cons_succ]
                    exact rfl
                  case hlast => kernel_rfl
                  case hol => exact rfl
                  case hob =>
                    refine ObsI.cons _ _ _ _ _ _ _ ?o0 (ObsI.cons _ _ _ _ _ _ _ ?o1 (ObsI.cons _ _ _ _ _ _ _ ?o2 (ObsI.cons _ _ _ _ _ _ _ ?o3 (ObsI.cons _ _ _ _ _ _ _ ?o4 (ObsI.cons _ _ _ _ _ _ _ ?o5 (ObsI.cons _ _ _ _ _ _ _ ?o6 (ObsI.cons _ _ _ _ _ _ _ ?o7 (ObsI.cons _ _ _ _ _ _ _ ?o8 (ObsI.cons _ _ _ _ _ _ _ ?o9 (ObsI.cons _ _ _ _ _ _ _ ?o10 (ObsI.cons _ _ _ _ _ _ _ ?o11 (ObsI.nil _ _ _ _ _ _ _))))))))))))
                    case o0 =>
                      intro d vs W hdk hdep hcl hv hX K hK
                      go_simp
                      exact hK.out _ _ (fun _ => hX.s0 (by decide)) (fun h => absurd h (by decide))
                    case o1 =>
                      intro d vs W hdk hdep hcl hv hX K hK
                      go_simp
                      exact hK.out _ _ (fun h => absurd h (by decide)) (fun _ => ⟨rfl, Below.refl _ _⟩)
                    case o2 =>
                      intro d vs W hdk hdep hcl hv hX K hK
                      go_simp
                      exact hK.out _ _ (fun h => absurd h (by decide)) (fun _ => ⟨rfl, Below.refl _ _⟩)
                    case o3 =>
                      intro d vs W hdk hdep hcl hv hX K hK
                      have h1 : vs 1 = .slice (some ⟨gs, 0, none⟩) k cs := hv 1 (by kernel_rfl) (by decide)
                      have h2 : vs 2 = .int .i64 (k : Int) := hv 2 (by kernel_rfl) (by decide)
                      simp only [Nat.reduceAdd, h1, h2] at hK ⊢
                      go_simp
                      exact hK.out _ _ (fun h => absurd h (by decide)) (fun _ => ⟨rfl, Below.refl _ _⟩)
                    case o4 =>
                      intro d vs W hdk hdep hcl hv hX K hK
                      have hn3 : d 7 = false := by
                        cases hq : d 7 with
                        | false => rfl
                        | true => exact absurd (hcl 7 _ 4 rfl (by kernel_rfl) hq) (by rw [hdk]; decide)
                      have hn4 : d 11 = false := by
                        cases hq : d 11 with
                        | false => rfl
                        | true => exact absurd (hcl 11 _ 7 rfl (by kernel_rfl) hq) (by rw [hn3]; decide)
                      have h3 : vs 3 = .slice (some ⟨gs, 0, none⟩) k cs := hv 3 (by kernel_rfl) (by decide)
                      have hr0 := hX.c0 (hdep 0 (by kernel_rfl)) hdk
                      obtain ⟨v', w', hr, hown, hnn, hg, hat⟩ := runI15 hr0 hX.size 46 ⟨gs, 0, none⟩ k cs (CS.take k) HlC.out (fun j u hu => HcC.out W hX.low j u hu) (one_take15 HoS.out) (by omega)
                      rw [Nat.zero_add, List.nil_append] at hown
                      apply step_append_run15 (d := .tmp 91) (s := .tmp 94) (t1 := 46) (t2 := 46) (u := vs 0) (x := .slice (some ⟨gs, 0, none⟩) k cs) (v := v') (w' := w')
                      case hgd => rfl
                      case ho => rfl
                      case hd => simp [Act.eval]
                      case hs => simp [Act.eval, h3]
                      case hrun => exact hr
                      case h => exact hK.out _ _ (fun _ => hX.s1 (by decide) (hdep 0 (by kernel_rfl)) hdk hn3 hn4 hown hnn hg hat) (fun h => absurd h (by decide))
                    case o5 =>
                      intro d vs W hdk hdep hcl hv hX K hK
                      go_simp
                      exact hK.out _ _ (fun h => absurd h (by decide)) (fun _ => ⟨rfl, Below.refl _ _⟩)
                    case o6 =>
                      intro d vs W hdk hdep hcl hv hX K hK
                      have hn3 : d 7 = false := by
                        cases hq : d 7 with
                        | false => rfl
                        | true => exact absurd (hcl 7 _ 6 rfl (by kernel_rfl) hq) (by rw [hdk]; decide)
                      have hn4 : d 11 = false := by
                        cases hq : d 11 with
                        | false => rfl
                        | true => exact absurd (hcl 11 _ 7 rfl (by kernel_rfl) hq) (by rw [hn3]; decide)
                      have h5 : vs 5 = .int .i64 sc := hv 5 (by kernel_rfl) (by decide)
                      simp only [Nat.reduceAdd, h5] at hK ⊢
                      go_simp
                      exact hK.out _ _ (fun _ => hX.s2 (by decide) hn3 hn4) (fun h => absurd h (by decide))
                    case o7 =>
                      intro d vs W hdk hdep hcl hv hX K hK
                      have hn4 : d 11 = false := by
                        cases hq : d 11 with
                        | false => rfl
                        | true => exact absurd (hcl 11 _ 7 rfl (by kernel_rfl) hq) (by rw [hdk]; decide)
                      have hr0 := hX.c1 (hdep 4 (by kernel_rfl)) hdk
                      obtain ⟨b, hx, hb, -, -⟩ := hX.c2 (hdep 6 (by kernel_rfl)) hdk
                      obtain ⟨v', w', hr, hown, hnn, hg, -⟩ := runI15 hr0 hX.size 46 ⟨b, 0, none⟩ 1 1 [.int .i64 sc] rfl (fun j u hu => by rw [add_zero15, Nat.zero_add, Lib.cell_of_heap hb]; simpa using hu) (by intro u hu; simp at hu; subst hu; rfl) (by omega)
                      apply step_append_run15 (d := .tmp 95) (s := .tmp 97) (t1 := 46) (t2 := 46) (u := vs 4) (x := .slice (some ⟨b, 0, none⟩) 1 1) (v := v') (w' := w')
                      case hgd => rfl
                      case ho => rfl
                      case hd => simp [Act.eval]
                      case hs => simp [Act.eval, hx]
                      case hrun => exact hr
                      case h => exact hK.out _ _ (fun _ => hX.s3 (by decide) (hdep 4 (by kernel_rfl)) hdk hn4 hown hnn hg) (fun h => absurd h (by decide))
                    case o8 =>
                      intro d vs W hdk hdep hcl hv hX K hK
                      go_simp
                      exact hK.out _ _ (fun h => absurd h (by decide)) (fun _ => ⟨rfl, Below.refl _ _⟩)
                    case o9 =>
                      intro d vs W hdk hdep hcl hv hX K hK
                      go_simp
                      exact hK.out _ _ (fun h => absurd h (by decide)) (fun _ => ⟨rfl, Below.refl _ _⟩)
                    case o10 =>
                      intro d vs W hdk hdep hcl hv hX K hK
                      have h8 : vs 8 = .slice (some ⟨gs, 0, none⟩) k cs := hv 8 (by kernel_rfl) (by decide)
                      have h9 : vs 9 = .int .i64 (k : Int) := hv 9 (by kernel_rfl) (by decide)
                      simp only [Nat.reduceAdd, h8, h9] at hK ⊢
                      go_simp
                      exact hK.out _ _ (fun h => absurd h (by decide)) (fun _ => ⟨rfl, Below.refl _ _⟩)
                    case o11 =>
                      intro d vs W hdk hdep hcl hv hX K hK
                      have h10 : vs 10 = .slice (some ⟨gs, k, none⟩) 0 (cs - k) := hv 10 (by kernel_rfl) (by decide)
                      have hd1 : d 4 = true := hcl 7 _ 4 rfl (by kernel_rfl) (hdep 7 (by kernel_rfl))
                      have hr0 := hX.c3 (hdep 7 (by kernel_rfl)) hdk
                      obtain ⟨v', w', hr, hown, hnn, hg, -⟩ := runI15 hr0 hX.size 46 ⟨gs, k, none⟩ 0 (cs - k) (CS.drop k) HlD.out (fun j u hu => HcD.out W hX.low j u hu) (one_drop15 HoS.out) (by omega)
                      apply step_append_run15 (d := .tmp 98) (s := .tmp 101) (t1 := 46) (t2 := 46) (u := vs 7) (x := .slice (some ⟨gs, k, none⟩) 0 (cs - k)) (v := v') (w' := w')
                      case hgd => rfl
                      case ho => rfl
                      case hd => simp [Act.eval]
                      case hs => simp [Act.eval, h10]
                      case hrun => exact hr
                      case h => exact hK.out _ _ (fun _ => hX.s4 (by decide) hd1 (hdep 7 (by kernel_rfl)) hdk hown hnn hg) (fun h => absurd h (by decide))
                  case hfin =>
                    intro d vs W hall hX hv
                    have h4 := hX.c4 (hall 11 (by decide))
                    rw [HIl.out, HIs.out] at h4
                    have HS5 : RowKit.Hid (IN W0.heap.size (vs 11) ((insO ltF S0 (sc, xid)).map (·.1)) W) := rowE_base (by rw [List.length_map]; exact h4) HN9.out
                    have HI5 := Lib.hid (HI9.out.after hX.low)
                    have HB5 := Lib.hid (HB9.out.trans (hX.low.mono HB9.out.size))
                    obtain ⟨v8, hv8⟩ : ∃ v, vs 11 = v := ⟨_, rfl⟩
                    rw [hv8] at HS5
                    simp only [Nat.reduceAdd, hv8]
                    clear h4 hX hv hv8 hall
                    go_simp
                    go_wp2
                    go_roundw
                    case rel => exact ⟨i + 1, by go_num, by omega, by rw [HS1.out]; exact HI5.out, by rw [HS1.out]; exact HS5.out, HB5.out⟩
                    case measure => simp [intOf]; omega
            · by_cases hdk : cs = k
              · obtain rfl : k = cs := hdk.symm
                go_upto_region 10 with fail
                generalize hW8 : wz.drewN _ = W8
                have hB8 : Below wq.heap.size wq W8 := by rw [← hW8]; exact HBr.out.trans ((below_drewN16 wz _).mono HBr.out.size)
                clear hW8
                have HB8 := Lib.hid (HBq.out.trans (hB8.mono HBq.out.size))
                have H8 := Lib.hid hB8
                have HId := Lib.hid (fun (W : World) (h : Below W8.heap.size W8 W) => (HCz.out W (hB8.trans (h.mono hB8.size))).1)
                have HlA : RowKit.Hid ((CI.take k).length = k) := by unfold RowKit.Hid; rw [List.length_take, HCIl.out]; omega
                have HlB : RowKit.Hid ((CI.drop k).length = 0) := by have := HCIl.out; unfold RowKit.Hid; rw [List.length_drop]; omega
                have HlC : RowKit.Hid ((CS.take k).length = k) := by unfold RowKit.Hid; rw [List.length_take, HCSl.out]; omega
                have HlD : RowKit.Hid ((CS.drop k).length = 0) := by have := HCSl.out; unfold RowKit.Hid; rw [List.length_drop]; omega
                have HIl : RowKit.Hid (k + 1 + 0 = (insO ltF S0 (sc, xid)).length) := by have := HNs.out; unfold RowKit.Hid; rw [insO_len]; omega
                have HcA := Lib.hid (fun (W : World) (h : Below W8.heap.size W8 W) (j : Nat) (u : Value) (hu : (CI.take k)[j]? = some u) => show W.cell? ((⟨gi, 0, none⟩ : Addr).add j) = some u from by
                  rw [add_zero15, Nat.zero_add]
                  exact HIc.out W (hB8.trans (h.mono hB8.size)) j u (src_take15 hu))
                have HcB := Lib.hid (fun (W : World) (h : Below W8.heap.size W8 W) (j : Nat) (u : Value) (hu : (CI.drop k)[j]? = some u) => show W.cell? ((⟨gi, k, none⟩ : Addr).add j) = some u from by
                  rw [add_zero15]
                  exact HIc.out W (hB8.trans (h.mono hB8.size)) (k + j) u (src_drop15 hu))
                have HN8 := Lib.hid HB8.out.size
                clear hB8
                apply wp_region_ime (imp := fun i => decide (i ∈ [0, 4, 10, 11, 15])) (X := fun d vs W => Ch 0 4 10 11 15 W8.heap.size W8 3 1 k 0 (CI.take k) [.int .i64 xid] (CI.drop k) d vs W) (V := [(fun _ => True), (fun v => v = .slice (some ⟨gi, 0, none⟩) k ci), (fun v => v = .int .i64 (k : Int)), (fun v => v = .slice (some ⟨gi, 0, none⟩) k ci), (fun _ => True), (fun v => v = .slice (some ⟨gl, ol, none⟩) n cl), (fun v => v = .int .i64 (i : Int)), (fun v => v = .pointer (some ⟨gl, ol + i * 5, none⟩)), (fun v => v = .pointer (some ⟨gl, ol + i * 5, none⟩)), (fun v => v = .int .i64 xid), (fun _ => True), (fun _ => True), (fun v => v = .slice (some ⟨gi, 0, none⟩) k ci), (fun v => v = .int .i64 (k : Int)), (fun v => v = .slice (some ⟨gi, k, none⟩) 0 (ci - k)), (fun _ => True)]) (n := 16) (f := 2)
                case hX0 => exact fun vs => Ch.init (Below.refl _ _).drew (Nat.le_refl _) vs
                case hXst => exact fun d vs u w h hb => h.below hb
                case hXo =>
                  intro d vs w i v hi h
                  have hi := of_decide_eq_false hi
                  simp only [List.mem_cons, List.not_mem_nil, or_false, not_or] at hi
                  exact h.other i v (Ne.symm hi.1) (Ne.symm hi.2.1) (Ne.symm hi.2.2.1) (Ne.symm hi.2.2.2.1) (Ne.symm hi.2.2.2.2)
                case hm => kernel_rfl
                case hd => kernel_rfl
                case hb => kernel_rfl
                case hA =>
                  intro vs
                  simp only [List.take_succ_cons, List.take_zero, puts, Act.put, List.setIfInBounds_toArray, List.set_cons_zero, List.set_cons_succ]
                  exact rfl
                case hlast => kernel_rfl
                case hol => exact rfl
                case hob =>
                  refine ObsI.cons _ _ _ _ _ _ _ ?o0 (ObsI.cons _ _ _ _ _ _ _ ?o1 (ObsI.cons _ _ _ _ _ _ _ ?o2 (ObsI.cons _ _ _ _ _ _ _ ?o3 (ObsI.cons _ _ _ _ _ _ _ ?o4 (ObsI.cons _ _ _ _ _ _ _ ?o5 (ObsI.cons _ _ _ _ _ _ _ ?o6 (ObsI.cons _ _ _ _ _ _ _ ?o7 (ObsI.cons _ _ _ _ _ _ _ ?o8 (ObsI.cons _ _ _ _ _ _ _ ?o9 (ObsI.cons _ _ _ _ _ _ _ ?o10 (ObsI.cons _ _ _ _ _ _ _ ?o11 (ObsI.cons _ _ _ _ _ _ _ ?o12 (ObsI.cons _ _ _ _ _ _ _ ?o13 (ObsI.cons _ _ _ _ _ _ _ ?o14 (ObsI.cons _ _ _ _ _ _ _ ?o15 (ObsI.nil _ _ _ _ _ _ _))))))))))))))))
                  case o0 =>
                    intro d vs W hdk hdep hcl hv hX K hK
                    go_simp
                    exact hK.out _ _ (fun _ => hX.s0 (by decide)) (fun h => absurd h (by decide))
                  case o1 =>
                    intro d vs W hdk hdep hcl hv hX K hK
                    go_simp
                    exact hK.out _ _ (fun h => absurd h (by decide)) (fun _ => ⟨rfl, Below.refl _ _⟩)
                  case o2 =>
                    intro d vs W hdk hdep hcl hv hX K hK
                    go_simp
                    exact hK.out _ _ (fun h => absurd h (by decide)) (fun _ => ⟨rfl, Below.refl _ _⟩)
                  case o3 =>
                    intro d vs W hdk hdep hcl hv hX K hK
                    have h1 : vs 1 = .slice (some ⟨gi, 0, none⟩) k ci := hv 1 (by kernel_rfl) (by decide)
                    have h2 : vs 2 = .int .i64 (k : Int) := hv 2 (by kernel_rfl) (by decide)
                    simp only [Nat.reduceAdd, h1, h2] at hK ⊢
                    go_simp
                    exact hK.out _ _ (fun h => absurd h (by decide)) (fun _ => ⟨rfl, Below.refl _ _⟩)
                  case o4 =>
                    intro d vs W hdk hdep hcl hv hX K hK
                    have hn3 : d 11 = false := by
                      cases hq : d 11 with
                      | false => rfl
                      | true => exact absurd (hcl 11 _ 4 rfl (by kernel_rfl) hq) (by rw [hdk]; decide)
                    have hn4 : d 15 = false := by
                      cases hq : d 15 with
                      | false => rfl
                      | true => exact absurd (hcl 15 _ 11 rfl (by kernel_rfl) hq) (by rw [hn3]; decide)
                    have h3 : vs 3 = .slice (some ⟨gi, 0, none⟩) k ci := hv 3 (by kernel_rfl) (by decide)
                    have hr0 := hX.c0 (hdep 0 (by kernel_rfl)) hdk
                    obtain ⟨v', w', hr, hown, hnn, hg, hat⟩ := runI15 hr0 hX.size 46 ⟨gi, 0, none⟩ k ci (CI.take k) HlA.out (fun j u hu => HcA.out W hX.low j u hu) (one_take15 HoI.out) (by omega)
                    rw [Nat.zero_add, List.nil_append] at hown
                    apply step_append_run15 (d := .tmp 75) (s := .tmp 78) (t1 := 46) (t2 := 46) (u := vs 0) (x := .slice (some ⟨gi, 0, none⟩) k ci) (v := v') (w' := w')
                    case hgd => rfl
                    case ho => rfl
                    case hd => simp [Act.eval]
                    case hs => simp [Act.eval, h3]
                    case hrun => exact hr
                    case h => exact hK.out _ _ (fun _ => hX.s1 (by decide) (hdep 0 (by kernel_rfl)) hdk hn3 hn4 hown hnn hg hat) (fun h => absurd h (by decide))
                  case o5 =>
                    intro d vs W hdk hdep hcl hv hX K hK
                    go_simp
                    exact hK.out _ _ (fun h => absurd h (by decide)) (fun _ => ⟨rfl, Below.refl _ _⟩)
                  case o6 =>
                    intro d vs W hdk hdep hcl hv hX K hK
                    go_simp
                    exact hK.out _ _ (fun h => absurd h (by decide)) (fun _ => ⟨rfl, Below.refl _ _⟩)
                  case o7 =>
                    intro d vs W hdk hdep hcl hv hX K hK
                    have h5 : vs 5 = .slice (some ⟨gl, ol, none⟩) n cl := hv 5 (by kernel_rfl) (by decide)
                    have h6 : vs 6 = .int .i64 (i : Int) := hv 6 (by kernel_rfl) (by decide)
                    simp only [Nat.reduceAdd, h5, h6] at hK ⊢
                    go_simp
                    exact hK.out _ _ (fun h => absurd h (by decide)) (fun _ => ⟨rfl, Below.refl _ _⟩)
                  case o8 =>
                    intro d vs W hdk hdep hcl hv hX K hK
                    have h7 : vs 7 = .pointer (some ⟨gl, ol + i * 5, none⟩) := hv 7 (by kernel_rfl) (by decide)
                    simp only [Nat.reduceAdd, h7] at hK ⊢
                    go_simp
                    exact hK.out _ _ (fun h => absurd h (by decide)) (fun _ => ⟨rfl, Below.refl _ _⟩)
                  case o9 =>
                    intro d vs W hdk hdep hcl hv hX K hK
                    have h8 : vs 8 = .pointer (some ⟨gl, ol + i * 5, none⟩) := hv 8 (by kernel_rfl) (by decide)
                    have c0 := HId.out W hX.low
                    simp only [Nat.reduceAdd, h8] at hK ⊢
                    go_simp
                    exact hK.out _ _ (fun h => absurd h (by decide)) (fun _ => ⟨rfl, Below.refl _ _⟩)
                  case o10 =>
                    intro d vs W hdk hdep hcl hv hX K hK
                    have hn3 : d 11 = false := by
                      cases hq : d 11 with
                      | false => rfl
                      | true => exact absurd (hcl 11 _ 10 rfl (by kernel_rfl) hq) (by rw [hdk]; decide)
                    have hn4 : d 15 = false := by
                      cases hq : d 15 with
                      | false => rfl
                      | true => exact absurd (hcl 15 _ 11 rfl (by kernel_rfl) hq) (by rw [hn3]; decide)
                    have h9 : vs 9 = .int .i64 xid := hv 9 (by kernel_rfl) (by decide)
                    simp only [Nat.reduceAdd, h9] at hK ⊢
                    go_simp
                    exact hK.out _ _ (fun _ => hX.s2 (by decide) hn3 hn4) (fun h => absurd h (by decide))
                  case o11 =>
                    intro d vs W hdk hdep hcl hv hX K hK
                    have hn4 : d 15 = false := by
                      cases hq : d 15 with
                      | false => rfl
                      | true => exact absurd (hcl 15 _ 11 rfl (by kernel_rfl) hq) (by rw [hdk]; decide)
                    have hr0 := hX.c1 (hdep 4 (by kernel_rfl)) hdk
                    obtain ⟨b, hx, hb, -, -⟩ := hX.c2 (hdep 10 (by kernel_rfl)) hdk
                    obtain ⟨v', w', hr, hown, hnn, hg, -⟩ := runI15 hr0 hX.size 46 ⟨b, 0, none⟩ 1 1 [.int .i64 xid] rfl (fun j u hu => by rw [add_zero15, Nat.zero_add, Lib.cell_of_heap hb]; simpa using hu) (by intro u hu; simp at hu; subst hu; rfl) (by omega)
                    apply step_append_run15 (d := .tmp 79) (s := .tmp 85) (t1 := 46) (t2 := 46) (u := vs 4) (x := .slice (some ⟨b, 0, none⟩) 1 1) (v := v') (w' := w')
                    case hgd => rfl
                    case ho => rfl
                    case hd => simp [Act.eval]
                    case hs => simp [Act.eval, hx]
                    case hrun => exact hr
                    case h => exact hK.out _ _ (fun _ => hX.s3 (by decide) (hdep 4 (by kernel_rfl)) hdk hn4 hown hnn hg) (fun h => absurd h (by decide))
                  case o12 =>
                    intro d vs W hdk hdep hcl hv hX K hK
                    go_simp
                    exact hK.out _ _ (fun h => absurd h (by decide)) (fun _ => ⟨rfl, Below.refl _ _⟩)
                  case o13 =>
                    intro d vs W hdk hdep hcl hv hX K hK
                    go_simp
                    exact hK.out _ _ (fun h => absurd h (by decide)) (fun _ => ⟨rfl, Below.refl _ _⟩)
                  case o14 =>
                    intro d vs W hdk hdep hcl hv hX K hK
                    have h12 : vs 12 = .slice (some ⟨gi, 0, none⟩) k ci := hv 12 (by kernel_rfl) (by decide)
                    have h13 : vs 13 = .int .i64 (k : Int) := hv 13 (by kernel_rfl) (by decide)
                    simp only [Nat.reduceAdd, h12, h13] at hK ⊢
                    go_simp
                    exact hK.out _ _ (fun h => absurd h (by decide)) (fun _ => ⟨rfl, Below.refl _ _⟩)
                  case o15 =>
                    intro d vs W hdk hdep hcl hv hX K hK
                    have h14 : vs 14 = .slice (some ⟨gi, k, none⟩) 0 (ci - k) := hv 14 (by kernel_rfl) (by decide)
                    have hd1 : d 4 = true := hcl 11 _ 4 rfl (by kernel_rfl) (hdep 11 (by kernel_rfl))
                    have hr0 := hX.c3 (hdep 11 (by kernel_rfl)) hdk
                    obtain ⟨v', w', hr, hown, hnn, hg, -⟩ := runI15 hr0 hX.size 46 ⟨gi, k, none⟩ 0 (ci - k) (CI.drop k) HlB.out (fun j u hu => HcB.out W hX.low j u hu) (one_drop15 HoI.out) (by omega)
                    apply step_append_run15 (d := .tmp 86) (s := .tmp 89) (t1 := 46) (t2 := 46) (u := vs 11) (x := .slice (some ⟨gi, k, none⟩) 0 (ci - k)) (v := v') (w' := w')
                    case hgd => rfl
                    case ho => rfl
                    case hd => simp [Act.eval]
                    case hs => simp [Act.eval, h14]
                    case hrun => exact hr
                    case h => exact hK.out _ _ (fun _ => hX.s4 (by decide) hd1 (hdep 11 (by kernel_rfl)) hdk hown hnn hg) (fun h => absurd h (by decide))
                case hfin =>
                  intro d vs W9 hall hX hv
                  have h4 := hX.c4 (hall 15 (by decide))
                  rw [HIl.out, HIi.out] at h4
                  have HI9 : RowKit.Hid (IN W0.heap.size (vs 15) ((insO ltF S0 (sc, xid)).map (·.2)) W9) := rowE_base (by rw [List.length_map]; exact h4) HN8.out
                  have HB9 := Lib.hid (HB8.out.trans (hX.low.mono HB8.out.size))
                  have HN9 := Lib.hid HB9.out.size
                  have hB9 := H8.out.trans (hX.low.mono H8.out.size)
                  obtain ⟨v7, hv7⟩ : ∃ v, vs 15 = v := ⟨_, rfl⟩
                  rw [hv7] at HI9
                  simp only [Nat.reduceAdd, hv7]
                  have HcC := Lib.hid (fun (W : World) (h : Below W9.heap.size W9 W) (j : Nat) (u : Value) (hu : (CS.take k)[j]? = some u) => show W.cell? ((⟨gs, 0, none⟩ : Addr).add j) = some u from by
                    rw [add_zero15, Nat.zero_add]
                    exact HSc.out W (hB9.trans (h.mono hB9.size)) j u (src_take15 hu))
                  have HcD := Lib.hid (fun (W : World) (_ : Below W9.heap.size W9 W) (j : Nat) (u : Value) (hu : (CS.drop k)[j]? = some u) => show W.cell? ((⟨gs, 0, none⟩ : Addr).add j) = some u from by
                    rw [List.drop_eq_nil_of_le (by rw [HCSl.out]; exact Nat.le_refl _)] at hu
                    simp at hu)
                  clear h4 hX hv hv7 hall hB9 HcA HcB HId H8
                  go_simp
                  go_upto_region 11 with fail
                  apply wp_region_ime (imp := fun i => decide (i ∈ [0, 4, 6, 7, 11])) (X := fun d vs W => Ch 0 4 6 7 11 W9.heap.size W9 3 1 k 0 (CS.take k) [.int .i64 sc] (CS.drop k) d vs W) (V := [(fun _ => True), (fun v => v = .slice (some ⟨gs, 0, none⟩) k k), (fun v => v = .int .i64 (k : Int)), (fun v => v = .slice (some ⟨gs, 0, none⟩) k k), (fun _ => True), (fun v => v = .int .i64 sc), (fun _ => True), (fun _ => True), (fun v => v = .slice (some ⟨gs, 0, none⟩) k k), (fun v => v = .int .i64 (k : Int)), (fun v => v = .slice (some ⟨gs, 0, none⟩) 0 0), (fun _ => True)]) (n := 12) (f := 2)
                  case hX0 => exact fun vs => Ch.init (Below.refl _ _).drew (Nat.le_refl _) vs
                  case hXst => exact fun d vs u w h hb => h.below hb
                  case hXo =>
                    intro d vs w i v hi h
                    have hi := of_decide_eq_false hi
                    simp only [List.mem_cons, List.not_mem_nil, or_false, not_or] at hi
                    exact h.other i v (Ne.symm hi.1) (Ne.symm hi.2.1) (Ne.symm hi.2.2.1) (Ne.symm hi.2.2.2.1) (Ne.symm hi.2.2.2.2)
                  case hm => kernel_rfl
                  case hd => kernel_rfl
                  case hb => kernel_rfl
                  case hA =>
                    intro vs
                    simp only [List.take_succ_cons, List.take_zero, puts, Act.put, List.setIfInBounds_toArray, List.set_cons_zero, List.set_cons_succ]
                    exact rfl
                  case hlast => kernel_rfl
                  case hol => exact rfl
                  case hob =>
                    refine ObsI.cons _ _ _ _ _ _ _ ?o0 (ObsI.cons _ _ _ _ _ _ _ ?o1 (ObsI.cons _ _ _ _ _ _ _ ?o2 (ObsI.cons _ _ _ _ _ _ _ ?o3 (ObsI.cons _ _ _ _ _ _ _ ?o4 (ObsI.cons _ _ _ _ _ _ _ ?o5 (ObsI.cons _ _ _ _ _ _ _ ?o6 (ObsI.cons _ _ _ _ _ _ _ ?o7 (ObsI.cons _ _ _ _ _ _ _ ?o8 (ObsI.cons _ _ _ _ _ _ _ ?o9 (ObsI.cons _ _ _ _ _ _ _ ?o10 (ObsI.cons _ _ _ _ _ _ _ ?o11 (ObsI.nil _ _ _ _ _ _ _))))))))))))
                    case o0 =>
                      intro d vs W hdk hdep hcl hv hX K hK
                      go_simp
                      exact hK.out _ _ (fun _ => hX.s0 (by decide)) (fun h => absurd h (by decide))
                    case o1 =>
                      intro d vs W hdk hdep hcl hv hX K hK
                      go_simp
                      exact hK.out _ _ (fun h => absurd h (by decide)) (fun _ => ⟨rfl, Below.refl _ _⟩)
                    case o2 =>
                      intro d vs W hdk hdep hcl hv hX K hK
                      go_simp
                      exact hK.out _ _ (fun h => absurd h (by decide)) (fun _ => ⟨rfl, Below.refl _ _⟩)
                    case o3 =>
                      intro d vs W hdk hdep hcl hv hX K hK
                      have h1 : vs 1 = .slice (some ⟨gs, 0, none⟩) k k := hv 1 (by kernel_rfl) (by decide)
                      have h2 : vs 2 = .int .i64 (k : Int) := hv 2 (by kernel_rfl) (by decide)
                      simp only [Nat.reduceAdd, h1, h2] at hK ⊢
                      go_simp
                      exact hK.out _ _ (fun h => absurd h (by decide)) (fun _ => ⟨rfl, Below.refl _ _⟩)
                    case o4 =>
                      intro d vs W hdk hdep hcl hv hX K hK
                      have hn3 : d 7 = false := by
                        cases hq : d 7 with
                        | false => rfl
                        | true => exact absurd (hcl 7 _ 4 rfl (by kernel_rfl) hq) (by rw [hdk]; decide)
                      have hn4 : d 11 = false := by
                        cases hq : d 11 with
                        | false => rfl
                        | true => exact absurd (hcl 11 _ 7 rfl (by kernel_rfl) hq) (by rw [hn3]; decide)
                      have h3 : vs 3 = .slice (some ⟨gs, 0, none⟩) k k := hv 3 (by kernel_rfl) (by decide)
                      have hr0 := hX.c0 (hdep 0 (by kernel_rfl)) hdk
                      obtain ⟨v', w', hr, hown, hnn, hg, hat⟩ := runI15 hr0 hX.size 46 ⟨gs, 0, none⟩ k k (CS.take k) HlC.out (fun j u hu => HcC.out W hX.low j u hu) (one_take15 HoS.out) (by omega)
                      rw [Nat.zero_add, List.nil_append] at hown
                      apply step_append_run15 (d := .tmp 91) (s := .tmp 94) (t1 := 46) (t2 := 46) (u := vs 0) (x := .slice (some ⟨gs, 0, none⟩) k k) (v := v') (w' := w')
                      case hgd => rfl
                      case ho => rfl
                      case hd => simp [Act.eval]
                      case hs => simp [Act.eval, h3]
                      case hrun => exact hr
                      case h => exact hK.out _ _ (fun _ => hX.s1 (by decide) (hdep 0 (by kernel_rfl)) hdk hn3 hn4 hown hnn hg hat) (fun h => absurd h (by decide))
                    case o5 =>
                      intro d vs W hdk hdep hcl hv hX K hK
                      go_simp
                      exact hK.out _ _ (fun h => absurd h (by decide)) (fun _ => ⟨rfl, Below.refl _ _⟩)
                    case o6 =>
                      intro d vs W hdk hdep hcl hv hX K hK
                      have hn3 : d 7 = false := by
                        cases hq : d 7 with
                        | false => rfl
                        | true => exact absurd (hcl 7 _ 6 rfl (by kernel_rfl) hq) (by rw [hdk]; decide)
                      have hn4 : d 11 = false := by
                        cases hq : d 11 with
                        | false => rfl
                        | true => exact absurd (hcl 11 _ 7 rfl (by kernel_rfl) hq) (by rw [hn3]; decide)
                      have h5 : vs 5 = .int .i64 sc := hv 5 (by kernel_rfl) (by decide)
                      simp only [Nat.reduceAdd, h5] at hK ⊢
                      go_simp
                      exact hK.out _ _ (fun _ => hX.s2 (by decide) hn3 hn4) (fun h => absurd h (by decide))
                    case o7 =>
                      intro d vs W hdk hdep hcl hv hX K hK
                      have hn4 : d 11 = false := by
                        cases hq : d 11 with
                        | false => rfl
                        | true => exact absurd (hcl 11 _ 7 rfl (by kernel_rfl) hq) (by rw [hdk]; decide)
                      have hr0 := hX.c1 (hdep 4 (by kernel_rfl)) hdk
                      obtain ⟨b, hx, hb, -, -⟩ := hX.c2 (hdep 6 (by kernel_rfl)) hdk
                      obtain ⟨v', w', hr, hown, hnn, hg, -⟩ := runI15 hr0 hX.size 46 ⟨b, 0, none⟩ 1 1 [.int .i64 sc] rfl (fun j u hu => by rw [add_zero15, Nat.zero_add, Lib.cell_of_heap hb]; simpa using hu) (by intro u hu; simp at hu; subst hu; rfl) (by omega)
                      apply step_append_run15 (d := .tmp 95) (s := .tmp 97) (t1 := 46) (t2 := 46) (u := vs 4) (x := .slice (some ⟨b, 0, none⟩) 1 1) (v := v') (w' := w')
                      case hgd => rfl
                      case ho => rfl
                      case hd => simp [Act.eval]
                      case hs => simp [Act.eval, hx]
                      case hrun => exact hr
                      case h => exact hK.out _ _ (fun _ => hX.s3 (by decide) (hdep 4 (by kernel_rfl)) hdk hn4 hown hnn hg) (fun h => absurd h (by decide))
                    case o8 =>
                      intro d vs W hdk hdep hcl hv hX K hK
                      go_simp
                      exact hK.out _ _ (fun h => absurd h (by decide)) (fun _ => ⟨rfl, Below.refl _ _⟩)
                    case o9 =>
                      intro d vs W hdk hdep hcl hv hX K hK
                      go_simp
                      exact hK.out _ _ (fun h => absurd h (by decide)) (fun _ => ⟨rfl, Below.refl _ _⟩)
                    case o10 =>
                      intro d vs W hdk hdep hcl hv hX K hK
                      have h8 : vs 8 = .slice (some ⟨gs, 0, none⟩) k k := hv 8 (by kernel_rfl) (by decide)
                      have h9 : vs 9 = .int .i64 (k : Int) := hv 9 (by kernel_rfl) (by decide)
                      simp only [Nat.reduceAdd, h8, h9] at hK ⊢
                      go_simp
                      exact hK.out _ _ (fun h => absurd h (by decide)) (fun _ => ⟨rfl, Below.refl _ _⟩)
                    case o11 =>
                      intro d vs W hdk hdep hcl hv hX K hK
                      have h10 : vs 10 = .slice (some ⟨gs, 0, none⟩) 0 0 := hv 10 (by kernel_rfl) (by decide)
                      have hd1 : d 4 = true := hcl 7 _ 4 rfl (by kernel_rfl) (hdep 7 (by kernel_rfl))
                      have hr0 := hX.c3 (hdep 7 (by kernel_rfl)) hdk
                      obtain ⟨v', w', hr, hown, hnn, hg, -⟩ := runI15 hr0 hX.size 46 ⟨gs, 0, none⟩ 0 0 (CS.drop k) HlD.out (fun j u hu => HcD.out W hX.low j u hu) (one_drop15 HoS.out) (by omega)
                      apply step_append_run15 (d := .tmp 98) (s := .tmp 101) (t1 := 46) (t2 := 46) (u := vs 7) (x := .slice (some ⟨gs, 0, none⟩) 0 0) (v := v') (w' := w')
                      case hgd => rfl
                      case ho => rfl
                      case hd => simp [Act.eval]
                      case hs => simp [Act.eval, h10]
                      case hrun => exact hr
                      case h => exact hK.out _ _ (fun _ => hX.s4 (by decide) hd1 (hdep 7 (by kernel_rfl)) hdk hown hnn hg) (fun h => absurd h (by decide))
                  case hfin =>
                    intro d vs W hall hX hv
                    have h4 := hX.c4 (hall 11 (by decide))
                    rw [HIl.out, HIs.out] at h4
                    have HS5 : RowKit.Hid (IN W0.heap.size (vs 11) ((insO ltF S0 (sc, xid)).map (·.1)) W) := rowE_base (by rw [List.length_map]; exact h4) HN9.out
                    have HI5 := Lib.hid (HI9.out.after hX.low)
                    have HB5 := Lib.hid (HB9.out.trans (hX.low.mono HB9.out.size))
                    obtain ⟨v8, hv8⟩ : ∃ v, vs 11 = v := ⟨_, rfl⟩
                    rw [hv8] at HS5
                    simp only [Nat.reduceAdd, hv8]
                    clear h4 hX hv hv8 hall
                    go_simp
                    go_wp2
                    go_roundw
                    case rel => exact ⟨i + 1, by go_num, by omega, by rw [HS1.out]; exact HI5.out, by rw [HS1.out]; exact HS5.out, HB5.out⟩
                    case measure => simp [intOf]; omega
              · skip
                go_upto_region 10 with fail
                generalize hW8 : wz.drewN _ = W8
                have hB8 : Below wq.heap.size wq W8 := by rw [← hW8]; exact HBr.out.trans ((below_drewN16 wz _).mono HBr.out.size)
                clear hW8
                have HB8 := Lib.hid (HBq.out.trans (hB8.mono HBq.out.size))
                have H8 := Lib.hid hB8
                have HId := Lib.hid (fun (W : World) (h : Below W8.heap.size W8 W) => (HCz.out W (hB8.trans (h.mono hB8.size))).1)
                have HlA : RowKit.Hid ((CI.take k).length = k) := by unfold RowKit.Hid; rw [List.length_take, HCIl.out]; omega
                have HlB : RowKit.Hid ((CI.drop k).length = 0) := by have := HCIl.out; unfold RowKit.Hid; rw [List.length_drop]; omega
                have HlC : RowKit.Hid ((CS.take k).length = k) := by unfold RowKit.Hid; rw [List.length_take, HCSl.out]; omega
                have HlD : RowKit.Hid ((CS.drop k).length = 0) := by have := HCSl.out; unfold RowKit.Hid; rw [List.length_drop]; omega
                have HIl : RowKit.Hid (k + 1 + 0 = (insO ltF S0 (sc, xid)).length) := by have := HNs.out; unfold RowKit.Hid; rw [insO_len]; omega
                have HcA := Lib.hid (fun (W : World) (h : Below W8.heap.size W8 W) (j : Nat) (u : Value) (hu : (CI.take k)[j]? = some u) => show W.cell? ((⟨gi, 0, none⟩ : Addr).add j) = some u from by
                  rw [add_zero15, Nat.zero_add]
                  exact HIc.out W (hB8.trans (h.mono hB8.size)) j u (src_take15 hu))
                have HcB := Lib.hid (fun (W : World) (h : Below W8.heap.size W8 W) (j : Nat) (u : Value) (hu : (CI.drop k)[j]? = some u) => show W.cell? ((⟨gi, k, none⟩ : Addr).add j) = some u from by
                  rw [add_zero15]
                  exact HIc.out W (hB8.trans (h.mono hB8.size)) (k + j) u (src_drop15 hu))
                have HN8 := Lib.hid HB8.out.size
                clear hB8
                apply wp_region_ime (imp := fun i => decide (i ∈ [0, 4, 10, 11, 15])) (X := fun d vs W => Ch 0 4 10 11 15 W8.heap.size W8 3 1 k 0 (CI.take k) [.int .i64 xid] (CI.drop k) d vs W) (V := [(fun _ => True), (fun v => v = .slice (some ⟨gi, 0, none⟩) k ci), (fun v => v = .int .i64 (k : Int)), (fun v => v = .slice (some ⟨gi, 0, none⟩) k ci), (fun _ => True), (fun v => v = .slice (some ⟨gl, ol, none⟩) n cl), (fun v => v = .int .i64 (i : Int)), (fun v => v = .pointer (some ⟨gl, ol + i * 5, none⟩)), (fun v => v = .pointer (some ⟨gl, ol + i * 5, none⟩)), (fun v => v = .int .i64 xid), (fun _ => True), (fun _ => True), (fun v => v = .slice (some ⟨gi, 0, none⟩) k ci), (fun v => v = .int .i64 (k : Int)), (fun v => v = .slice (some ⟨gi, k, none⟩) 0 (ci - k)), (fun _ => True)]) (n := 16) (f := 2)
                case hX0 => exact fun vs => Ch.init (Below.refl _ _).drew (Nat.le_refl _) vs
                case hXst => exact fun d vs u w h hb => h.below hb
                case hXo =>
                  intro d vs w i v hi h
                  have hi := of_decide_eq_false hi
                  simp only [List.mem_cons, List.not_mem_nil, or_false, not_or] at hi
                  exact h.other i v (Ne.symm hi.1) (Ne.symm hi.2.1) (Ne.symm hi.2.2.1) (Ne.symm hi.2.2.2.1) (Ne.symm hi.2.2.2.2)
                case hm => kernel_rfl
                case hd => kernel_rfl
                case hb => kernel_rfl
                case hA =>
                  intro vs
                  simp only [List.take_succ_cons, List.take_zero, puts, Act.put, List.setIfInBounds_toArray, List.set_cons_zero, List.set_cons_succ]
                  exact rfl
                case hlast => kernel_rfl
                case hol => exact rfl
                case hob =>
                  refine ObsI.cons _ _ _ _ _ _ _ ?o0 (ObsI.cons _ _ _ _ _ _ _ ?o1 (ObsI.cons _ _ _ _ _ _ _ ?o2 (ObsI.cons _ _ _ _ _ _ _ ?o3 (ObsI.cons _ _ _ _ _ _ _ ?o4 (ObsI.cons _ _ _ _ _ _ _ ?o5 (ObsI.cons _ _ _ _ _ _ _ ?o6 (ObsI.cons _ _ _ _ _ _ _ ?o7 (ObsI.cons _ _ _ _ _ _ _ ?o8 (ObsI.cons _ _ _ _ _ _ _ ?o9 (ObsI.cons _ _ _ _ _ _ _ ?o10 (ObsI.cons _ _ _ _ _ _ _ ?o11 (ObsI.cons _ _ _ _ _ _ _ ?o12 (ObsI.cons _ _ _ _ _ _ _ ?o13 (ObsI.cons _ _ _ _ _ _ _ ?o14 (ObsI.cons _ _ _ _ _ _ _ ?o15 (ObsI.nil _ _ _ _ _ _ _))))))))))))))))
                  case o0 =>
                    intro d vs W hdk hdep hcl hv hX K hK
                    go_simp
                    exact hK.out _ _ (fun _ => hX.s0 (by decide)) (fun h => absurd h (by decide))
                  case o1 =>
                    intro d vs W hdk hdep hcl hv hX K hK
                    go_simp
                    exact hK.out _ _ (fun h => absurd h (by decide)) (fun _ => ⟨rfl, Below.refl _ _⟩)
                  case o2 =>
                    intro d vs W hdk hdep hcl hv hX K hK
                    go_simp
                    exact hK.out _ _ (fun h => absurd h (by decide)) (fun _ => ⟨rfl, Below.refl _ _⟩)
                  case o3 =>
                    intro d vs W hdk hdep hcl hv hX K hK
                    have h1 : vs 1 = .slice (some ⟨gi, 0, none⟩) k ci := hv 1 (by kernel_rfl) (by decide)
                    have h2 : vs 2 = .int .i64 (k : Int) := hv 2 (by kernel_rfl) (by decide)
                    simp only [Nat.reduceAdd, h1, h2] at hK ⊢
                    go_simp
                    exact hK.out _ _ (fun h => absurd h (by decide)) (fun _ => ⟨rfl, Below.refl _ _⟩)
                  case o4 =>
                    intro d vs W hdk hdep hcl hv hX K hK
                    have hn3 : d 11 = false := by
                      cases hq : d 11 with
                      | false => rfl
                      | true => exact absurd (hcl 11 _ 4 rfl (by kernel_rfl) hq) (by rw [hdk]; decide)
                    have hn4 : d 15 = false := by
                      cases hq : d 15 with
                      | false => rfl
                      | true => exact absurd (hcl 15 _ 11 rfl (by kernel_rfl) hq) (by rw [hn3]; decide)
                    have h3 : vs 3 = .slice (some ⟨gi, 0, none⟩) k ci := hv 3 (by kernel_rfl) (by decide)
                    have hr0 := hX.c0 (hdep 0 (by kernel_rfl)) hdk
                    obtain ⟨v', w', hr, hown, hnn, hg, hat⟩ := runI15 hr0 hX.size 46 ⟨gi, 0, none⟩ k ci (CI.take k) HlA.out (fun j u hu => HcA.out W hX.low j u hu) (one_take15 HoI.out) (by omega)
                    rw [Nat.zero_add, List.nil_append] at hown
                    apply step_append_run15 (d := .tmp 75) (s := .tmp 78) (t1 := 46) (t2 := 46) (u := vs 0) (x := .slice (some ⟨gi, 0, none⟩) k ci) (v := v') (w' := w')
                    case hgd => rfl
                    case ho => rfl
                    case hd => simp [Act.eval]
                    case hs => simp [Act.eval, h3]
                    case hrun => exact hr
                    case h => exact hK.out _ _ (fun _ => hX.s1 (by decide) (hdep 0 (by kernel_rfl)) hdk hn3 hn4 hown hnn hg hat) (fun h => absurd h (by decide))
                  case o5 =>
                    intro d vs W hdk hdep hcl hv hX K hK
                    go_simp
                    exact hK.out _ _ (fun h => absurd h (by decide)) (fun _ => ⟨rfl, Below.refl _ _⟩)
                  case o6 =>
                    intro d vs W hdk hdep hcl hv hX K hK
                    go_simp
                    exact hK.out _ _ (fun h => absurd h (by decide)) (fun _ => ⟨rfl, Below.refl _ _⟩)
                  case o7 =>
                    intro d vs W hdk hdep hcl hv hX K hK
                    have h5 : vs 5 = .slice (some ⟨gl, ol, none⟩) n cl := hv 5 (by kernel_rfl) (by decide)
                    have h6 : vs 6 = .int .i64 (i : Int) := hv 6 (by kernel_rfl) (by decide)
                    simp only [Nat.reduceAdd, h5, h6] at hK ⊢
                    go_simp
                    exact hK.out _ _ (fun h => absurd h (by decide)) (fun _ => ⟨rfl, Below.refl _ _⟩)
                  case o8 =>
                    intro d vs W hdk hdep hcl hv hX K hK
                    have h7 : vs 7 = .pointer (some ⟨gl, ol + i * 5, none⟩) := hv 7 (by kernel_rfl) (by decide)
                    simp only [Nat.reduceAdd, h7] at hK ⊢
                    go_simp
                    exact hK.out _ _ (fun h => absurd h (by decide)) (fun _ => ⟨rfl, Below.refl _ _⟩)
                  case o9 =>
                    intro d vs W hdk hdep hcl hv hX K hK
                    have h8 : vs 8 = .pointer (some ⟨gl, ol + i * 5, none⟩) := hv 8 (by kernel_rfl) (by decide)
                    have c0 := HId.out W hX.low
                    simp only [Nat.reduceAdd, h8] at hK ⊢
                    go_simp
                    exact hK.out _ _ (fun h => absurd h (by decide)) (fun _ => ⟨rfl, Below.refl _ _⟩)
                  case o10 =>
                    intro d vs W hdk hdep hcl hv hX K hK
                    have hn3 : d 11 = false := by
                      cases hq : d 11 with
                      | false => rfl
                      | true => exact absurd (hcl 11 _ 10 rfl (by kernel_rfl) hq) (by rw [hdk]; decide)
                    have hn4 : d 15 = false := by
                      cases hq : d 15 with
                      | false => rfl
                      | true => exact absurd (hcl 15 _ 11 rfl (by kernel_rfl) hq) (by rw [hn3]; decide)
                    have h9 : vs 9 = .int .i64 xid := hv 9 (by kernel_rfl) (by decide)
                    simp only [Nat.reduceAdd, h9] at hK ⊢
                    go_simp
                    exact hK.out _ _ (fun _ => hX.s2 (by decide) hn3 hn4) (fun h => absurd h (by decide))
                  case o11 =>
                    intro d vs W hdk hdep hcl hv hX K hK
                    have hn4 : d 15 = false := by
                      cases hq : d 15 with
                      | false => rfl
                      | true => exact absurd (hcl 15 _ 11 rfl (by kernel_rfl) hq) (by rw [hdk]; decide)
                    have hr0 := hX.c1 (hdep 4 (by kernel_rfl)) hdk
                    obtain ⟨b, hx, hb, -, -⟩ := hX.c2 (hdep 10 (by kernel_rfl)) hdk
                    obtain ⟨v', w', hr, hown, hnn, hg, -⟩ := runI15 hr0 hX.size 46 ⟨b, 0, none⟩ 1 1 [.int .i64 xid] rfl (fun j u hu => by rw [add_zero15, Nat.zero_add, Lib.cell_of_heap hb]; simpa using hu) (by intro u hu; simp at hu; subst hu; rfl) (by omega)
                    apply step_append_run15 (d := .tmp 79) (s := .tmp 85) (t1 := 46) (t2 := 46) (u := vs 4) (x := .slice (some ⟨b, 0, none⟩) 1 1) (v := v') (w' := w')
                    case hgd => rfl
                    case ho => rfl
                    case hd => simp [Act.eval]
                    case hs => simp [Act.eval, hx]
                    case hrun => exact hr
                    case h => exact hK.out _ _ (fun _ => hX.s3 (by decide) (hdep 4 (by kernel_rfl)) hdk hn4 hown hnn hg) (fun h => absurd h (by decide))
                  case o12 =>
                    intro d vs W hdk hdep hcl hv hX K hK
                    go_simp
                    exact hK.out _ _ (fun h => absurd h (by decide)) (fun _ => ⟨rfl, Below.refl _ _⟩)
                  case o13 =>
                    intro d vs W hdk hdep hcl hv hX K hK
                    go_simp
                    exact hK.out _ _ (fun h => absurd h (by decide)) (fun _ => ⟨rfl, Below.refl _ _⟩)
                  case o14 =>
                    intro d vs W hdk hdep hcl hv hX K hK
                    have h12 : vs 12 = .slice (some ⟨gi, 0, none⟩) k ci := hv 12 (by kernel_rfl) (by decide)
                    have h13 : vs 13 = .int .i64 (k : Int) := hv 13 (by kernel_rfl) (by decide)
                    simp only [Nat.reduceAdd, h12, h13] at hK ⊢
                    go_simp
                    exact hK.out _ _ (fun h => absurd h (by decide)) (fun _ => ⟨rfl, Below.refl _ _⟩)
                  case o15 =>
                    intro d vs W hdk hdep hcl hv hX K hK
                    have h14 : vs 14 = .slice (some ⟨gi, k, none⟩) 0 (ci - k) := hv 14 (by kernel_rfl) (by decide)
                    have hd1 : d 4 = true := hcl 11 _ 4 rfl (by kernel_rfl) (hdep 11 (by kernel_rfl))
                    have hr0 := hX.c3 (hdep 11 (by kernel_rfl)) hdk
                    obtain ⟨v', w', hr, hown, hnn, hg, -⟩ := runI15 hr0 hX.size 46 ⟨gi, k, none⟩ 0 (ci - k) (CI.drop k) HlB.out (fun j u hu => HcB.out W hX.low j u hu) (one_drop15 HoI.out) (by omega)
                    apply step_append_run15 (d := .tmp 86) (s := .tmp 89) (t1 := 46) (t2 := 46) (u := vs 11) (x := .slice (some ⟨gi, k, none⟩) 0 (ci - k)) (v := v') (w' := w')
                    case hgd => rfl
                    case ho => rfl
                    case hd => simp [Act.eval]
                    case hs => simp [Act.eval, h14]
                    case hrun => exact hr
                    case h => exact hK.out _ _ (fun _ => hX.s4 (by decide) hd1 (hdep 11 (by kernel_rfl)) hdk hown hnn hg) (fun h => absurd h (by decide))
                case hfin =>
                  intro d vs W9 hall hX hv
                  have h4 := hX.c4 (hall 15 (by decide))
                  rw [HIl.out, HIi.out] at h4
                  have HI9 : RowKit.Hid (IN W0.heap.size (vs 15) ((insO ltF S0 (sc, xid)).map (·.2)) W9) := rowE_base (by rw [List.length_map]; exact h4) HN8.out
                  have HB9 := Lib.hid (HB8.out.trans (hX.low.mono HB8.out.size))
                  have HN9 := Lib.hid HB9.out.size
                  have hB9 := H8.out.trans (hX.low.mono H8.out.size)
                  obtain ⟨v7, hv7⟩ : ∃ v, vs 15 = v := ⟨_, rfl⟩
                  rw [hv7] at HI9
                  simp only [Nat.reduceAdd, hv7]
                  have HcC := Lib.hid (fun (W : World) (h : Below W9.heap.size W9 W) (j : Nat) (u : Value) (hu : (CS.take k)[j]? = some u) => show W.cell? ((⟨gs, 0, none⟩ : Addr).add j) = some u from by
                    rw [add_zero15, Nat.zero_add]
                    exact HSc.out W (hB9.trans (h.mono hB9.size)) j u (src_take15 hu))
                  have HcD := Lib.hid (fun (W : World) (h : Below W9.heap.size W9 W) (j : Nat) (u : Value) (hu : (CS.drop k)[j]? = some u) => show W.cell? ((⟨gs, k, none⟩ : Addr).add j) = some u from by
                    rw [add_zero15]
                    exact HSc.out W (hB9.trans (h.mono hB9.size)) (k + j) u (src_drop15 hu))
                  clear h4 hX hv hv7 hall hB9 HcA HcB HId H8
                  go_simp
                  go_upto_region 11 with fail
                  apply wp_region_ime (imp := fun i => decide (i ∈ [0, 4, 6, 7, 11])) (X := fun d vs W => Ch 0 4 6 7 11 W9.heap.size W9 3 1 k 0 (CS.take k) [.int .i64 sc] (CS.drop k) d vs W) (V := [(fun _ => True), (fun v => v = .slice (some ⟨gs, 0, none⟩) k cs), (fun v => v = .int .i64 (k : Int)), (fun v => v = .slice (some ⟨gs, 0, none⟩) k cs), (fun _ => True), (fun v => v = .int .i64 sc), (fun _ => True), (fun _ => True), (fun v => v = .slice (some ⟨gs, 0, none⟩) k cs), (fun v => v = .int .i64 (k : Int)), (fun v => v = .slice (some ⟨gs, k, none⟩) 0 (cs - k)), (fun _ => True)]) (n := 12) (f := 2)
                  case hX0 => exact fun vs => Ch.init (Below.refl _ _).drew (Nat.le_refl _) vs
                  case hXst => exact fun d vs u w h hb => h.below hb
                  case hXo =>
                    intro d vs w i v hi h
                    have hi := of_decide_eq_false hi
                    simp only [List.mem_cons, List.not_mem_nil, or_false, not_or] at hi
                    exact h.other i v (Ne.symm hi.1) (Ne.symm hi.2.1) (Ne.symm hi.2.2.1) (Ne.symm hi.2.2.2.1) (Ne.symm hi.2.2.2.2)
                  case hm => kernel_rfl
                  case hd => kernel_rfl
                  case hb => kernel_rfl
                  case hA =>
                    intro vs
                    simp only [List.take_succ_cons, List.take_zero, puts, Act.put, List.setIfInBounds_toArray, List.set_cons_zero, List.set_cons_succ]
                    exact rfl
                  case hlast => kernel_rfl
                  case hol => exact rfl
                  case hob =>
                    refine ObsI.cons _ _ _ _ _ _ _ ?o0 (ObsI.cons _ _ _ _ _ _ _ ?o1 (ObsI.cons _ _ _ _ _ _ _ ?o2 (ObsI.cons _ _ _ _ _ _ _ ?o3 (ObsI.cons _ _ _ _ _ _ _ ?o4 (ObsI.cons _ _ _ _ _ _ _ ?o5 (ObsI.cons _ _ _ _ _ _ _ ?o6 (ObsI.cons _ _ _ _ _ _ _ ?o7 (ObsI.cons _ _ _ _ _ _ _ ?o8 (ObsI.cons _ _ _ _ _ _ _ ?o9 (ObsI.cons _ _ _ _ _ _ _ ?o10 (ObsI.cons _ _ _ _ _ _ _ ?o11 (ObsI.nil _ _ _ _ _ _ _))))))))))))
                    case o0 =>
                      intro d vs W hdk hdep hcl hv hX K hK
                      go_simp
                      exact hK.out _ _ (fun _ => hX.s0 (by decide)) (fun h => absurd h (by decide))
                    case o1 =>
                      intro d vs W hdk hdep hcl hv hX K hK
                      go_simp
                      exact hK.out _ _ (fun h => absurd h (by decide)) (fun _ => ⟨rfl, Below.refl _ _⟩)
                    case o2 =>
                      intro d vs W hdk hdep hcl hv hX K hK
                      go_simp
                      exact hK.out _ _ (fun h => absurd h (by decide)) (fun _ => ⟨rfl, Below.refl _ _⟩)
                    case o3 =>
                      intro d vs W hdk hdep hcl hv hX K hK
                      have h1 : vs 1 = .slice (some ⟨gs, 0, none⟩) k cs := hv 1 (by kernel_rfl) (by decide)
                      have h2 : vs 2 = .int .i64 (k : Int) := hv 2 (by kernel_rfl) (by decide)
                      simp only [Nat.reduceAdd, h1, h2] at hK ⊢
                      go_simp
                      exact hK.out _ _ (fun h => absurd h (by decide)) (fun _ => ⟨rfl, Below.refl _ _⟩)
                    case o4 =>
                      intro d vs W hdk hdep hcl hv hX K hK
                      have hn3 : d 7 = false := by
                        cases hq : d 7 with
                        | false => rfl
                        | true => exact absurd (hcl 7 _ 4 rfl (by kernel_rfl) hq) (by rw [hdk]; decide)
                      have hn4 : d 11 = false := by
                        cases hq : d 11 with
                        | false => rfl
                        | true => exact absurd (hcl 11 _ 7 rfl (by kernel_rfl) hq) (by rw [hn3]; decide)
                      have h3 : vs 3 = .slice (some ⟨gs, 0, none⟩) k cs := hv 3 (by kernel_rfl) (by decide)
                      have hr0 := hX.c0 (hdep 0 (by kernel_rfl)) hdk
                      obtain ⟨v', w', hr, hown, hnn, hg, hat⟩ := runI15 hr0 hX.size 46 ⟨gs, 0, none⟩ k cs (CS.take k) HlC.out (fun j u hu => HcC.out W hX.low j u hu) (one_take15 HoS.out) (by omega)
                      rw [Nat.zero_add, List.nil_append] at hown
                      apply step_append_run15 (d := .tmp 91) (s := .tmp 94) (t1 := 46) (t2 := 46) (u := vs 0) (x := .slice (some ⟨gs, 0, none⟩) k cs) (v := v') (w' := w')
                      case hgd => rfl
                      case ho => rfl
                      case hd => simp [Act.eval]
                      case hs => simp [Act.eval, h3]
                      case hrun => exact hr
                      case h => exact hK.out _ _ (fun _ => hX.s1 (by decide) (hdep 0 (by kernel_rfl)) hdk hn3 hn4 hown hnn hg hat) (fun h => absurd h (by decide))
                    case o5 =>
                      intro d vs W hdk hdep hcl hv hX K hK
                      go_simp
                      exact hK.out _ _ (fun h => absurd h (by decide)) (fun _ => ⟨rfl, Below.refl _ _⟩)
                    case o6 =>
                      intro d vs W hdk hdep hcl hv hX K hK
                      have hn3 : d 7 = false := by
                        cases hq : d 7 with
                        | false => rfl
                        | true => exact absurd (hcl 7 _ 6 rfl (by kernel_rfl) hq) (by rw [hdk]; decide)
                      have hn4 : d 11 = false := by
                        cases hq : d 11 with
                        | false => rfl
                        | true => exact absurd (hcl 11 _ 7 rfl (by kernel_rfl) hq) (by rw [hn3]; decide)
                      have h5 : vs 5 = .int .i64 sc := hv 5 (by kernel_rfl) (by decide)
                      simp only [Nat.reduceAdd, h5] at hK ⊢
                      go_simp
                      exact hK.out _ _ (fun _ => hX.s2 (by decide) hn3 hn4) (fun h => absurd h (by decide))
                    case o7 =>
                      intro d vs W hdk hdep hcl hv hX K hK
                      have hn4 : d 11 = false := by
                        cases hq : d 11 with
                        | false => rfl
                        | true => exact absurd (hcl 11 _ 7 rfl (by kernel_rfl) hq) (by rw [hdk]; decide)
                      have hr0 := hX.c1 (hdep 4 (by kernel_rfl)) hdk
                      obtain ⟨b, hx, hb, -, -⟩ := hX.c2 (hdep 6 (by kernel_rfl)) hdk
                      obtain ⟨v', w', hr, hown, hnn, hg, -⟩ := runI15 hr0 hX.size 46 ⟨b, 0, none⟩ 1 1 [.int .i64 sc] rfl (fun j u hu => by rw [add_zero15, Nat.zero_add, Lib.cell_of_heap hb]; simpa using hu) (by intro u hu; simp at hu; subst hu; rfl) (by omega)
                      apply step_append_run15 (d := .tmp 95) (s := .tmp 97) (t1 := 46) (t2 := 46) (u := vs 4) (x := .slice (some ⟨b, 0, none⟩) 1 1) (v := v') (w' := w')
                      case hgd => rfl
                      case ho => rfl
                      case hd => simp [Act.eval]
                      case hs => simp [Act.eval, hx]
                      case hrun => exact hr
                      case h => exact hK.out _ _ (fun _ => hX.s3 (by decide) (hdep 4 (by kernel_rfl)) hdk hn4 hown hnn hg) (fun h => absurd h (by decide))
                    case o8 =>
                      intro d vs W hdk hdep hcl hv hX K hK
                      go_simp
                      exact hK.out _ _ (fun h => absurd h (by decide)) (fun _ => ⟨rfl, Below.refl _ _⟩)
                    case o9 =>
                      intro d vs W hdk hdep hcl hv hX K hK
                      go_simp
                      exact hK.out _ _ (fun h => absurd h (by decide)) (fun _ => ⟨rfl, Below.refl _ _⟩)
                    case o10 =>
                      intro d vs W hdk hdep hcl hv hX K hK
                      have h8 : vs 8 = .slice (some ⟨gs, 0, none⟩) k cs := hv 8 (by kernel_rfl) (by decide)
                      have h9 : vs 9 = .int .i64 (k : Int) := hv 9 (by kernel_rfl) (by decide)
                      simp only [Nat.reduceAdd, h8, h9] at hK ⊢
                      go_simp
                      exact hK.out _ _ (fun h => absurd h (by decide)) (fun _ => ⟨rfl, Below.refl _ _⟩)
                    case o11 =>
                      intro d vs W hdk hdep hcl hv hX K hK
                      have h10 : vs 10 = .slice (some ⟨gs, k, none⟩) 0 (cs - k) := hv 10 (by kernel_rfl) (by decide)
                      have hd1 : d 4 = true := hcl 7 _ 4 rfl (by kernel_rfl) (hdep 7 (by kernel_rfl))
                      have hr0 := hX.c3 (hdep 7 (by kernel_rfl)) hdk
                      obtain ⟨v', w', hr, hown, hnn, hg, -⟩ := runI15 hr0 hX.size 46 ⟨gs, k, none⟩ 0 (cs - k) (CS.drop k) HlD.out (fun j u hu => HcD.out W hX.low j u hu) (one_drop15 HoS.out) (by omega)
                      apply step_append_run15 (d := .tmp 98) (s := .tmp 101) (t1 := 46) (t2 := 46) (u := vs 7) (x := .slice (some ⟨gs, k, none⟩) 0 (cs - k)) (v := v') (w' := w')
                      case hgd => rfl
                      case ho => rfl
                      case hd => simp [Act.eval]
                      case hs => simp [Act.eval, h10]
                      case hrun => exact hr
                      case h => exact hK.out _ _ (fun _ => hX.s4 (by decide) hd1 (hdep 7 (by kernel_rfl)) hdk hown hnn hg) (fun h => absurd h (by decide))
                  case hfin =>
                    intro d vs W hall hX hv
                    have h4 := hX.c4 (hall 11 (by decide))
                    rw [HIl.out, HIs.out] at h4
                    have HS5 : RowKit.Hid (IN W0.heap.size (vs 11) ((insO ltF S0 (sc, xid)).map (·.1)) W) := rowE_base (by rw [List.length_map]; exact h4) HN9.out
                    have HI5 := Lib.hid (HI9.out.after hX.low)
                    have HB5 := Lib.hid (HB9.out.trans (hX.low.mono HB9.out.size))
                    obtain ⟨v8, hv8⟩ : ∃ v, vs 11 = v := ⟨_, rfl⟩
                    rw [hv8] at HS5
                    simp only [Nat.reduceAdd, hv8]
                    clear h4 hX hv hv8 hall
                    go_simp
                    go_wp2
                    go_roundw
                    case rel => exact ⟨i + 1, by go_num, by omega, by rw [HS1.out]; exact HI5.out, by rw [HS1.out]; exact HS5.out, HB5.out⟩
                    case measure => simp [intOf]; omega
    · obtain rfl : i = n := by omega
      have hF := HI.out.il
      rw [HSe.out] at hF
      have HF := Lib.hid (HQ.out _ _ hF (HBw.out _ HB.out))
      clear hF
      go_wp2
      first | exact HF.out | (go_ret; exact HF.out)
end

end Go.Proofs.YtfjfpefpdlecbaaGreatDoor
