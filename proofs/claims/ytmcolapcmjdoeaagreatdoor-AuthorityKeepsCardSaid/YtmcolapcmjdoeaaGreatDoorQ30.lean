/- Merged: QI13, Plain13G, WR13. -/
import Derived.Test.YtmcolapcmjdoeaaGreatDoorQ29
import Derived.BigQuiet
import Derived.Test.YtmcolapcmjdoeaaGreatDoorQ20
import Derived.Test.YtmcolapcmjdoeaaGreatDoorQ18
import Derived.Laws.CopyOwn
import Derived.Laws.CopyRow
import Derived.ArgAppend
namespace Go.Proofs.YtmcolapcmjdoeaaGreatDoor

section
open Go.RowKit Go.PlainAid
theorem il_at {v : Value} {l : List Int} {w : World} (h : IL v l w) (k : Nat) (hk : k < l.length) : ∃ g o cap, v = .slice (some ⟨g, o, none⟩) l.length cap ∧ g < w.heap.size ∧ w.cell? ⟨g, o + k, none⟩ = some (.int .i64 (l.getD k 0)) := by
  obtain ⟨a, cap, rfl, hc, hx⟩ := h
  obtain ⟨g, o, rfl, h1, h2⟩ := hx k l[k] (List.getElem?_eq_getElem hk)
  refine ⟨g, o, cap, rfl, h1, ?_⟩
  rw [h2, List.getD_eq_getElem?_getD, List.getElem?_eq_getElem hk]
  rfl
theorem all_getD13 (p : Int → Bool) (l : List Int) (h : ∀ j, j < l.length → p (l.getD j 0) = true) : l.all p = true := by
  rw [List.all_eq_true]
  intro x hx
  obtain ⟨j, hj, rfl⟩ := List.mem_iff_getElem.1 hx
  have := h j hj
  rwa [List.getD_eq_getElem?_getD, List.getElem?_eq_getElem hj] at this
theorem all_getD_no (p : Int → Bool) (l : List Int) (j : Nat) (hj : j < l.length) (h : p (l.getD j 0) = false) : l.all p = false := by
  rw [Bool.eq_false_iff]
  intro g
  rw [List.all_eq_true] at g
  have := g l[j] (List.getElem_mem hj)
  rw [List.getD_eq_getElem?_getD, List.getElem?_eq_getElem hj] at h
  rw [show (some l[j]).getD 0 = l[j] from rfl, this] at h
  cases h

set_option maxHeartbeats 16000000 in
set_option maxRecDepth 100000 in
theorem rightAbove_any (v : Value) (L : List Au) (a : Au) (s t : Value) (w : World) (hv : AL v L w) (hs : AscA L) (hz : L.length ≤ 1000000) (h : AN a s t w) (hy : a.above.length ≤ 100000) :
    Calls Tryz.prog 41 #[v, AV a s t] w fun e w' => e = .returned (.int .i64 (abvE L a)) ∧ Below w.heap.size w w' := by
  obtain ⟨Q, hQ⟩ : ∃ Q, (fun (e : Ending) (w' : World) => e = .returned (.int .i64 (abvE L a)) ∧ Below w.heap.size w w') = Q := ⟨_, rfl⟩
  rw [hQ]
  obtain ⟨W0, hW0⟩ : ∃ W, w.alloc (.cells #[.int .i64 a.id, .int .i64 a.kind, .string (S a.heading), s, t] 31) = W := ⟨_, rfl⟩
  have b0 : Below w.heap.size w W0 := by rw [← hW0]; exact (Below.refl _ _).alloc (Nat.le_refl _) _
  have hR0 : W0.heap[w.heap.size]? = some (.cells #[.int .i64 a.id, .int .i64 a.kind, .string (S a.heading), s, t] 31 (0, 0)) := by rw [← hW0]; exact heap_alloc_new w _
  have hlt0 : w.heap.size < W0.heap.size := by rw [← hW0]; simp
  have HQ : RowKit.Hid (∀ z : Int, abvE L a = z → ∀ W, Below W0.heap.size W0 W → Q (.returned (.int .i64 z)) W) := by
    intro z hz W hW
    rw [← hQ]
    exact ⟨by rw [hz], b0.trans (hW.mono b0.size)⟩
  have HBox := Lib.hid (fun (W : World) (h : Below W0.heap.size W0 W) => acells ((h.block w.heap.size hlt0).trans hR0))
  have HT := Lib.hid (h.2.after b0)
  have HV := Lib.hid (hv.after b0)
  have cP := Lib.hid (fun (id : Int) (W : World) (hb : Below W0.heap.size W0 W) => place_any v L id W (HV.out.after hb) hs hz)
  have HAe := Lib.hid (abvE_eq L a)
  have HGet := Lib.hid (fun (id : Int) (x : Au) (hx : getA L id = some x) => get_plc_eq L id hs x hx)
  have HW0 := Lib.hid hW0
  obtain ⟨sa, sc, hs2, -, -⟩ := h.1.length
  subst hs2
  obtain ⟨ta, tc, ht2, -⟩ := h.2
  subst ht2
  obtain ⟨va, vc, rfl, -, -⟩ := hv.length
  obtain ⟨nt, hnt⟩ : ∃ n, a.above.length = n := ⟨_, rfl⟩
  have HNt := Lib.hid hnt
  rw [hnt] at HT HBox HW0 HAe hy ⊢
  obtain ⟨ns, hns⟩ : ∃ n, a.see.length = n := ⟨_, rfl⟩
  rw [hns] at HBox HW0 ⊢
  obtain ⟨n, hn⟩ : ∃ n, L.length = n := ⟨_, rfl⟩
  have HN := Lib.hid hn
  rw [hn] at cP HV hz HGet ⊢
  unfold AV
  obtain ⟨⟨x0, x1, x2, x3, x4⟩, -⟩ := HBox.out W0 (Below.refl _ _)
  clear hQ hW0 hR0 b0 hlt0 h hns hnt hv hs hn
  go_enter Tryz.func41, Tryz.ntmps41
  go_upto_region 1 with fail
  rw [HW0.out]
  clear HW0
  by_cases h4 : 4 < nt
  · have t4 : decide ((4 : Int) < (nt : Int)) = true := decide_eq_true (by omega)
    have hno := HQ.out 13 (HAe.out.trans (if_pos h4)) W0 (Below.refl _ _)
    go_wp2
    first | exact hno | (go_ret; exact hno)
  have t4 : decide ((4 : Int) < (nt : Int)) = false := decide_eq_false (by omega)
  have hae2 := HAe.out.trans (if_neg h4)
  have HAe2 := Lib.hid hae2
  have HBr0 := Lib.hid (Below.refl W0.heap.size W0)
  clear hae2 HAe
  go_wp2
  go_loopw [18] (fun s18 wr => ∃ k : Nat, s18 = .int .i64 (k : Int) ∧ k ≤ nt ∧ RowKit.Hid (∀ j, 1 ≤ j → j < k → a.above.getD (j - 1) 0 < a.above.getD j 0) ∧ W0 = wr) (fun s18 _ => nt - (intOf s18).toNat)
  case atStart => exact ⟨0, rfl, Nat.zero_le _, (fun j h1 h2 => by omega), rfl⟩
  case round =>
    obtain ⟨k, rfl, hk, HK, hwr⟩ := hrel
    rw [← hwr]
    clear hwr
    by_cases hkn : k < nt
    · have i1 : (0 : Int) ≤ (k : Int) := by omega
      have i2 : (k : Int) < (nt : Int) := by omega
      obtain ⟨g, o, cap, he, hg, c0⟩ := il_at HT.out k (by rw [HNt.out]; exact hkn)
      obtain ⟨rfl, -, hcp⟩ := Value.slice.inj he
      by_cases hk0 : k = 0
      · have t0 : decide ((0 : Int) < (k : Int)) = false := decide_eq_false (by omega)
        have t0' : ¬ 0 < k := by omega
        have HK2 : RowKit.Hid (∀ j, 1 ≤ j → j < k + 1 → a.above.getD (j - 1) 0 < a.above.getD j 0) := fun j h1 h2 => by omega
        clear he hcp HQ HGet cP hk0
        generalize a.above.getD k 0 = y at *
        go_wp2
        go_roundw
        case rel => first | exact ⟨k + 1, by go_num, by omega, HK2.out, rfl⟩ | exact ⟨k + 1, by go_num, by omega, HK2.out, trivial⟩
        case measure => simp [intOf]; omega
      · obtain ⟨k1, hk1⟩ : ∃ k1 : Nat, k - 1 = k1 := ⟨_, rfl⟩
        obtain ⟨g', o', cap', he', hg', c1⟩ := il_at HT.out k1 (by rw [HNt.out]; omega)
        obtain ⟨e3, -, -⟩ := Value.slice.inj he'
        obtain ⟨e4, e5⟩ : g = g' ∧ o = o' := by simpa using e3
        rw [← e4, ← e5] at c1
        have t0 : decide ((0 : Int) < (k : Int)) = true := decide_eq_true (by omega)
        have t0' : 0 < k := by omega
        have m1 : (k : Int) - 1 = (k1 : Int) := by omega
        have i3 : (0 : Int) ≤ (k1 : Int) := by omega
        have i4 : (k1 : Int) < (nt : Int) := by omega
        have HKs : RowKit.Hid (a.above.getD k1 0 < a.above.getD k 0 → ∀ j, 1 ≤ j → j < k + 1 → a.above.getD (j - 1) 0 < a.above.getD j 0) := by
          intro h j h1 h2
          rcases Nat.lt_or_ge j k with h3 | h3
          · exact HK.out j h1 h3
          · rw [show j = k by omega, hk1]; exact h
        have HKb : RowKit.Hid (a.above.getD k 0 ≤ a.above.getD k1 0 → ascI a.above = false) := by
          intro h
          rw [Bool.eq_false_iff]
          intro g
          have := (asc_iff a.above).1 g k (by omega) (by rw [HNt.out]; exact hkn)
          rw [hk1] at this
          omega
        clear he hcp he' e3 e4 e5 hg' HGet cP hk1
        generalize a.above.getD k1 0 = y1 at *
        generalize a.above.getD k 0 = y at *
        by_cases hle : y ≤ y1
        · have t1 : decide (y ≤ y1) = true := decide_eq_true hle
          have hae3 := HAe2.out.trans (if_pos (HKb.out hle))
          have hno := HQ.out 7 hae3 W0 (Below.refl _ _)
          clear hae3 HKs HKb hle
          go_wp2
          first | exact hno | (go_ret; exact hno)
        · have t1 : decide (y ≤ y1) = false := decide_eq_false hle
          have HK2 := Lib.hid (HKs.out (by omega))
          clear HKs HKb hle HQ
          go_wp2
          go_roundw
          case rel => first | exact ⟨k + 1, by go_num, by omega, HK2.out, rfl⟩ | exact ⟨k + 1, by go_num, by omega, HK2.out, trivial⟩
          case measure => simp [intOf]; omega
    · obtain rfl : k = nt := by omega
      have hasc : ascI a.above = true := (asc_iff a.above).2 (fun j h1 h2 => HK.out j h1 (by rw [HNt.out] at h2; exact h2))
      have hae3 := HAe2.out.trans (if_neg (by rw [hasc]; decide))
      have HAe3 := Lib.hid hae3
      clear hasc hae3 HAe2 HK
      go_wp2
      go_loopw [39] (fun s39 wt => ∃ j : Nat, s39 = .int .i64 (j : Int) ∧ j ≤ k ∧ RowKit.Hid (∀ i, i < j → upOk L a (a.above.getD i 0) = true) ∧ RowKit.Hid (Below W0.heap.size W0 wt)) (fun s39 _ => k - (intOf s39).toNat)
      case atStart => exact ⟨0, rfl, Nat.zero_le _, (fun i hi => by omega), Below.refl _ _⟩
      case round =>
        obtain ⟨j, rfl, hj, HJ, HB⟩ := hrel
        obtain ⟨⟨y0, y1, y2, y3, y4⟩, -⟩ := HBox.out _ HB.out
        by_cases hjn : j < k
        · have i1 : (0 : Int) ≤ (j : Int) := by omega
          have i2 : (j : Int) < (k : Int) := by omega
          obtain ⟨g, o, cap, he, hg, c0⟩ := il_at (HT.out.after HB.out) j (by rw [HNt.out]; exact hjn)
          obtain ⟨rfl, -, hcp⟩ := Value.slice.inj he
          have HJ2 : RowKit.Hid (upOk L a (a.above.getD j 0) = true → ∀ i, i < j + 1 → upOk L a (a.above.getD i 0) = true) := by
            intro h i hi
            rcases Nat.lt_or_ge i j with h3 | h3
            · exact HJ.out i h3
            · rw [show i = j by omega]; exact h
          have HNo : RowKit.Hid (upOk L a (a.above.getD j 0) = false → (a.above.all (upOk L a)) = false) := fun h => all_getD_no _ _ j (by rw [HNt.out]; exact hjn) h
          obtain ⟨id, hid⟩ : ∃ id, a.above.getD j 0 = id := ⟨_, rfl⟩
          rw [hid] at c0 HJ2 HNo
          have cP2 := Lib.hid (cP.out id _ HB.out)
          clear he hcp hid
          cases hgt : getA L id with
          | none =>
            have hup : upOk L a id = false := by unfold upOk; rw [hgt]
            have hno := Lib.hid (fun W hW => HQ.out 9 (HAe3.out.trans (if_pos (HNo.out hup))) W hW)
            rw [hgt] at cP2
            have hb : (Option.isSome (none : Option Au)) = false := rfl
            rw [hb] at cP2
            clear hup HNo HJ2 hgt hb HQ
            generalize plcA L id = pk at *
            go_wp2_with fail
            refine cP2.out.mono ?_
            rintro e w6 ⟨rfl, hb6⟩
            have hno2 := fun q => hno.out (w6.drewN q) ((HB.out.trans (hb6.mono HB.out.size)).trans ((drewN_below w6 q).mono (HB.out.trans (hb6.mono HB.out.size)).size))
            obtain ⟨⟨z0, z1, z2, z3, z4⟩, -⟩ := HBox.out w6 (HB.out.trans (hb6.mono HB.out.size))
            clear hb6 y0 y1 y2 y3 y4 c0
            go_upto_region 13 with fail
            go_quiet (fail)
            go_wp2
            first | exact hno2 _ | (go_ret; exact hno2 _)
          | some x =>
            obtain ⟨hp1, hp2, -⟩ := HGet.out id x hgt
            rw [hgt] at cP2
            have hb : (some x).isSome = true := rfl
            rw [hb] at cP2
            have hup : upOk L a id = decide (x.kind = a.kind) := by unfold upOk; rw [hgt]
            rw [hup] at HNo HJ2
            obtain ⟨pk, hpk⟩ : ∃ pk, plcA L id = pk := ⟨_, rfl⟩
            rw [hpk] at cP2 hp1 hp2
            have HPk := Lib.hid hp2
            have k1 : (0 : Int) ≤ (pk : Int) := by omega
            have k2 : (pk : Int) < (n : Int) := by omega
            clear hb hup hgt hpk hp2
            by_cases hkd : x.kind = a.kind
            · have HJ3 := Lib.hid (HJ2.out (decide_eq_true hkd))
              clear HJ2 HNo HQ
              go_wp2_with fail
              refine cP2.out.mono ?_
              rintro e w6 ⟨rfl, hb6⟩
              have HB6 := Lib.hid (HB.out.trans (hb6.mono HB.out.size))
              obtain ⟨⟨z0, z1, z2, z3, z4⟩, -⟩ := HBox.out w6 HB6.out
              obtain ⟨g2, o2, cap2, s2, t2, he2, hg2, d0, d1, d2, d3, d4, -⟩ := (HV.out.after HB6.out).at pk (by rw [HN.out]; exact hp1)
              obtain ⟨rfl, -, hcp2⟩ := Value.slice.inj he2
              rw [HPk.out, hkd] at d1
              have t0 : (a.kind == a.kind) = true := by simp
              have t1 : (a.kind != a.kind) = false := by simp
              clear hb6 y0 y1 y2 y3 y4 c0 he2 hcp2 d0 d2 d3 d4 hkd
              go_upto_region 13 with fail
              go_quiet (fail)
              go_wp2
              go_roundw
              case rel => exact ⟨j + 1, by go_num, by omega, HJ3.out, HB6.out.trans ((drewN_below w6 _).mono HB6.out.size)⟩
              case measure => simp [intOf]; omega
            · have hno := Lib.hid (fun W hW => HQ.out 9 (HAe3.out.trans (if_pos (HNo.out (decide_eq_false hkd)))) W hW)
              clear HJ2 HNo HQ
              go_wp2_with fail
              refine cP2.out.mono ?_
              rintro e w6 ⟨rfl, hb6⟩
              have HB6 := Lib.hid (HB.out.trans (hb6.mono HB.out.size))
              obtain ⟨⟨z0, z1, z2, z3, z4⟩, -⟩ := HBox.out w6 HB6.out
              obtain ⟨g2, o2, cap2, s2, t2, he2, hg2, d0, d1, d2, d3, d4, -⟩ := (HV.out.after HB6.out).at pk (by rw [HN.out]; exact hp1)
              obtain ⟨rfl, -, hcp2⟩ := Value.slice.inj he2
              rw [HPk.out] at d1
              have t0 : (x.kind == a.kind) = false := by simpa using hkd
              have t1 : (x.kind != a.kind) = true := by simpa using hkd
              have hno2 := fun q => hno.out (w6.drewN q) (HB6.out.trans ((drewN_below w6 q).mono HB6.out.size))
              clear hb6 y0 y1 y2 y3 y4 c0 he2 hcp2 d0 d2 d3 d4 hkd
              generalize x.kind = kx at *
              go_upto_region 13 with fail
              go_quiet (fail)
              go_wp2
              first | exact hno2 _ | (go_ret; exact hno2 _)
        · obtain rfl : j = k := by omega
          have hall : a.above.all (upOk L a) = true := all_getD13 (upOk L a) a.above (by rw [HNt.out]; exact HJ.out)
          have hno := HQ.out 0 (HAe3.out.trans (if_neg (by rw [hall]; decide))) _ HB.out
          go_wp2
          first | exact hno | (go_ret; exact hno)
end

section
def addF (f : Int → Bool) (x : Int) : Int → Bool := fun y => f y || decide (x = y)
def potU (F : Int → List Int) (U : List Int) (f : Int → Bool) : Nat := (U.map fun x => if f x = true then 0 else (F x).length).sum
theorem pot_same (F : Int → List Int) (f : Int → Bool) (x : Int) : ∀ U : List Int, x ∉ U → potU F U (addF f x) = potU F U f
  | [], _ => rfl
  | y :: r, h => by
    have hne : ¬ x = y := fun e => h (by rw [e]; simp)
    have ih := pot_same F f x r (fun g => h (by simp [g]))
    unfold potU at ih ⊢
    rw [List.map_cons, List.map_cons, List.sum_cons, List.sum_cons, ih]
    congr 1
    unfold addF
    rw [decide_eq_false hne, Bool.or_false]
theorem pot_step (F : Int → List Int) (f : Int → Bool) (x : Int) (hf : f x = false) : ∀ U : List Int, U.Nodup → x ∈ U → potU F U (addF f x) + (F x).length = potU F U f
  | [], _, h => by cases h
  | y :: r, hn, h => by
    rw [List.nodup_cons] at hn
    by_cases e : x = y
    · subst e
      have := pot_same F f x r hn.1
      unfold potU at this ⊢
      rw [List.map_cons, List.map_cons, List.sum_cons, List.sum_cons, this]
      have h1 : addF f x x = true := by unfold addF; simp
      rw [if_pos h1, if_neg (by rw [hf]; decide)]
      omega
    · have hm : x ∈ r := (List.mem_cons.1 h).resolve_left e
      have ih := pot_step F f x hf r hn.2 hm
      have h1 : addF f x y = f y := by unfold addF; rw [decide_eq_false e, Bool.or_false]
      unfold potU at ih ⊢
      rw [List.map_cons, List.map_cons, List.sum_cons, List.sum_cons, h1]
      omega
theorem cnt_same (f : Int → Bool) (x : Int) : ∀ U : List Int, x ∉ U → U.countP (addF f x) = U.countP f
  | [], _ => rfl
  | y :: r, h => by
    have hne : ¬ x = y := fun e => h (by rw [e]; simp)
    have ih := cnt_same f x r (fun g => h (by simp [g]))
    have h1 : addF f x y = f y := by unfold addF; rw [decide_eq_false hne, Bool.or_false]
    rw [List.countP_cons, List.countP_cons, ih, h1]
theorem cnt_step (f : Int → Bool) (x : Int) (hf : f x = false) : ∀ U : List Int, U.Nodup → x ∈ U → U.countP (addF f x) = U.countP f + 1
  | [], _, h => by cases h
  | y :: r, hn, h => by
    rw [List.nodup_cons] at hn
    rw [List.countP_cons, List.countP_cons]
    by_cases e : x = y
    · subst e
      have h1 : addF f x x = true := by unfold addF; simp
      rw [cnt_same f x r hn.1, h1, hf]
      rfl
    · have hm : x ∈ r := (List.mem_cons.1 h).resolve_left e
      have h1 : addF f x y = f y := by unfold addF; rw [decide_eq_false e, Bool.or_false]
      rw [cnt_step f x hf r hn.2 hm, h1]
      omega
/-- What holds between two rounds: what has been reached (f), what waits (W). -/
structure Inv (F : Int → List Int) (id : Int) (U : List Int) (f : Int → Bool) (W : List Int) : Prop where
  first : ∀ y ∈ F id, f y = true ∨ y ∈ W
  next : ∀ x, f x = true → ∀ y ∈ F x, f y = true ∨ y ∈ W
  least : ∀ T : Int → Prop, (∀ y ∈ F id, T y) → (∀ x, T x → ∀ y ∈ F x, T y) → (∀ x, f x = true → T x) ∧ ∀ x ∈ W, T x
  inU : (∀ x, f x = true → x ∈ U) ∧ ∀ x ∈ W, x ∈ U
theorem inv_start (F : Int → List Int) (id : Int) (U : List Int) (hU : ∀ y ∈ F id, y ∈ U) : Inv F id U (fun _ => false) (F id) :=
  ⟨fun y hy => .inr hy, fun x h => (by cases h), fun T h1 _ => ⟨fun x h => (by cases h), h1⟩, ⟨fun x h => (by cases h), hU⟩⟩
theorem inv_old {F : Int → List Int} {id : Int} {U : List Int} {f : Int → Bool} {x : Int} {r : List Int} (h : Inv F id U f (x :: r)) (hx : f x = true) : Inv F id U f r := by
  have key : ∀ y, f y = true ∨ y ∈ x :: r → f y = true ∨ y ∈ r := by
    rintro y (h | h)
    · exact .inl h
    · rcases List.mem_cons.1 h with rfl | h
      · exact .inl hx
      · exact .inr h
  exact ⟨fun y hy => key y (h.first y hy), fun z hz y hy => key y (h.next z hz y hy), fun T h1 h2 => ⟨(h.least T h1 h2).1, fun y hy => (h.least T h1 h2).2 y (by simp [hy])⟩, ⟨h.inU.1, fun y hy => h.inU.2 y (by simp [hy])⟩⟩
theorem inv_new {F : Int → List Int} {id : Int} {U : List Int} {f : Int → Bool} {x : Int} {r : List Int} (h : Inv F id U f (x :: r)) (hU : ∀ x ∈ U, ∀ y ∈ F x, y ∈ U) : Inv F id U (addF f x) (r ++ F x) := by
  have hadd : ∀ y, addF f x y = true ↔ f y = true ∨ x = y := fun y => by unfold addF; rw [Bool.or_eq_true, decide_eq_true_iff]
  have key : ∀ y, f y = true ∨ y ∈ x :: r → addF f x y = true ∨ y ∈ r ++ F x := by
    rintro y (h | h)
    · exact .inl ((hadd y).2 (.inl h))
    · rcases List.mem_cons.1 h with rfl | h
      · exact .inl ((hadd _).2 (.inr rfl))
      · exact .inr (List.mem_append.2 (.inl h))
  have hxU : x ∈ U := h.inU.2 x (by simp)
  refine ⟨fun y hy => key y (h.first y hy), fun z hz y hy => ?_, fun T h1 h2 => ?_, ⟨fun z hz => ?_, fun y hy => ?_⟩⟩
  · rcases (hadd z).1 hz with hz | rfl
    · exact key y (h.next z hz y hy)
    · exact .inr (List.mem_append.2 (.inr hy))
  · obtain ⟨l1, l2⟩ := h.least T h1 h2
    have hTx : T x := l2 x (by simp)
    refine ⟨fun z hz => ?_, fun y hy => ?_⟩
    · rcases (hadd z).1 hz with hz | rfl
      · exact l1 z hz
      · exact hTx
    · rcases List.mem_append.1 hy with hy | hy
      · exact l2 y (by simp [hy])
      · exact h2 x hTx y hy
  · rcases (hadd z).1 hz with hz | rfl
    · exact h.inU.1 z hz
    · exact hxU
  · rcases List.mem_append.1 hy with hy | hy
    · exact h.inU.2 y (by simp [hy])
    · exact hU x hxU y hy
theorem inv_end {F : Int → List Int} {id : Int} {U : List Int} {f : Int → Bool} (h : Inv F id U f []) : Lst F id f :=
  ⟨fun y hy => (h.first y hy).resolve_right (by simp), fun x hx y hy => (h.next x hx y hy).resolve_right (by simp), fun T h1 h2 => (h.least T h1 h2).1⟩
theorem pot_none (F : Int → List Int) (U : List Int) : potU F U (fun _ => false) = (U.map fun x => (F x).length).sum := by
  unfold potU
  rfl
end

section
open Go.RowKit Go.PlainAid
theorem heap_setCells13 {g : Nat} {t : TypeId} {fr : Nat × Nat} : ∀ (zs : List Value) (o : Nat) (w : World) (cs : List Value), w.heap[g]? = some (.cells cs.toArray t fr) → o + zs.length ≤ cs.length → (w.setCells g o zs).heap[g]? = some (.cells (splice cs o zs).toArray t fr)
  | [], o, w, cs, h, _ => by simpa [splice, World.setCells] using h
  | z :: zs, o, w, cs, h, hl => by
    simp only [List.length_cons] at hl
    have h1 : (w.setCell ⟨g, o, none⟩ z).heap[g]? = some (.cells (cs.set o z).toArray t fr) := by simp [World.setCell, Array.getElem?_modify, h]
    have := heap_setCells13 zs (o + 1) (w.setCell ⟨g, o, none⟩ z) (cs.set o z) h1 (by rw [List.length_set]; omega)
    have e := list_seg_step cs o z zs hl
    unfold splice at this ⊢
    rw [← List.append_assoc, e] at this
    rw [show (z :: zs).length = zs.length + 1 from rfl, ← List.append_assoc]
    exact this
theorem setCells_below13 {B g : Nat} (hB : B ≤ g) : ∀ (zs : List Value) (o : Nat) (a w : World), Below B a w → Below B a (w.setCells g o zs)
  | [], _, _, _, h => h
  | z :: zs, o, a, w, h => setCells_below13 hB zs (o + 1) a (w.setCell ⟨g, o, none⟩ z) (h.setCell (p := ⟨g, o, none⟩) hB z)
theorem setCells_other13 {g i : Nat} (hi : i ≠ g) : ∀ (zs : List Value) (o : Nat) (w : World), (w.setCells g o zs).heap[i]? = w.heap[i]?
  | [], _, _ => rfl
  | z :: zs, o, w => (setCells_other13 hi zs (o + 1) (w.setCell ⟨g, o, none⟩ z)).trans (Below.heap_setCell w _ z i hi)
theorem setCells_size13 {g : Nat} : ∀ (zs : List Value) (o : Nat) (w : World), (w.setCells g o zs).heap.size = w.heap.size
  | [], _, _ => rfl
  | z :: zs, o, w => (setCells_size13 zs (o + 1) (w.setCell ⟨g, o, none⟩ z)).trans (by simp [World.setCell])
theorem splice_seg {α : Type} (cs : List α) (o n : Nat) (zs : List α) (h : o + n + zs.length ≤ cs.length) : ((splice cs (o + n) zs).drop o).take (n + zs.length) = (cs.drop o).take n ++ zs := by
  unfold splice
  rw [List.drop_append_of_le_length (by rw [List.length_take]; omega), List.drop_take, show o + n - o = n by omega]
  rw [← List.append_assoc]
  have hl : ((cs.drop o).take n ++ zs).length = n + zs.length := by rw [List.length_append, List.length_take, List.length_drop]; omega
  rw [← hl]
  exact List.take_left

/-- A row of integers of the call's own, from some place in its block on. -/
def WR (B : Nat) (v : Value) (l : List Int) (w : World) : Prop :=
  (v = .slice none 0 0 ∧ l = []) ∨ ∃ g o cap cs, v = .slice (some ⟨g, o, none⟩) l.length cap ∧ B ≤ g ∧ w.heap[g]? = some (.cells (List.toArray cs) 3 (0, 0)) ∧ l.length ≤ cap ∧ cap ≤ maxLen ∧ o + cap ≤ cs.length ∧ (cs.drop o).take l.length = l.map intV
theorem WR.of {B : Nat} {v : Value} {l : List Int} {w : World} (h : IR B v l w) : WR B v l w := by
  rcases h.2 with ⟨rfl, h0⟩ | ⟨g, cap, cur, rfl, hb, hg, hc, hm, hs, ht⟩
  · exact .inl ⟨rfl, List.eq_nil_of_length_eq_zero h0⟩
  · refine .inr ⟨g, 0, cap, cur.toList, rfl, hb, by simpa using hg, hc, hm, ?_, ?_⟩
    · rw [Nat.zero_add, Array.length_toList, hs, Nat.mul_one]
      exact Nat.le_refl _
    · rw [List.drop_zero]
      rw [Nat.mul_one] at ht
      exact ht
theorem WR.after {B : Nat} {v : Value} {l : List Int} {w w' : World} (h : WR B v l w) (hb : ∀ i, B ≤ i → i < w.heap.size → w'.heap[i]? = w.heap[i]?) : WR B v l w' := by
  rcases h with h | ⟨g, o, cap, cs, rfl, hB, hg, rest⟩
  · exact .inl h
  · exact .inr ⟨g, o, cap, cs, rfl, hB, (hb g hB (Array.getElem?_eq_some_iff.1 hg).1).trans hg, rest⟩
theorem WR.form {B : Nat} {v : Value} {l : List Int} {w : World} (h : WR B v l w) : ∃ a c, v = .slice a l.length c := by
  rcases h with ⟨rfl, rfl⟩ | ⟨g, o, cap, cs, rfl, _⟩
  · exact ⟨_, _, rfl⟩
  · exact ⟨_, _, rfl⟩
theorem WR.head {B : Nat} {v : Value} {x : Int} {r : List Int} {w : World} (h : WR B v (x :: r) w) : ∃ g o cap, v = .slice (some ⟨g, o, none⟩) (r.length + 1) cap ∧ r.length + 1 ≤ cap ∧ cap ≤ maxLen ∧ w.cell? ⟨g, o, none⟩ = some (.int .i64 x) ∧
    (cap = 1 → WR B (.slice (some ⟨g, o, none⟩) r.length 0) r w) ∧ (¬ cap = 1 → WR B (.slice (some ⟨g, o + 1, none⟩) r.length (cap - 1)) r w) := by
  rcases h with ⟨_, h0⟩ | ⟨g, o, cap, cs, rfl, hB, hg, hc, hm, hs, ht⟩
  · cases h0
  · rw [List.length_cons] at hc ht
    have hlt : o < cs.length := by omega
    have hd : cs.drop o = cs[o] :: cs.drop (o + 1) := List.drop_eq_getElem_cons hlt
    rw [hd, List.take_succ_cons, List.map_cons] at ht
    obtain ⟨h1, h2⟩ := List.cons.inj ht
    refine ⟨g, o, cap, rfl, hc, hm, ?_, fun h => ?_, fun h => ?_⟩
    · rw [Lib.cell_of_heap hg]
      rw [← show intV x = .int .i64 x from rfl, ← h1]
      simp [hlt]
    · have : r = [] := List.eq_nil_of_length_eq_zero (by omega)
      subst this
      exact .inr ⟨g, o, 0, cs, rfl, hB, hg, Nat.le_refl _, Nat.zero_le _, by omega, rfl⟩
    · exact .inr ⟨g, o + 1, cap - 1, cs, rfl, hB, hg, by omega, by omega, by omega, h2⟩
/-- append of what lies in any slice. -/
theorem wr_append {B : Nat} {v : Value} {l : List Int} {w : World} (h : WR B v l w) (hB : B ≤ w.heap.size) (u : Value) (M : List Int) (hu : IL u M w) (hz : l.length + M.length ≤ 1000000) (ty : TypeId) :
    ∃ v' w', (Builtin.append_ #[29, 29] ty #[v, u]).run Tryz.prog w = .ok v' w' ∧ WR B v' (l ++ M) w' ∧ Below B w w' := by
  obtain ⟨i0, hi, hz0, hz1, hz2⟩ := info_int13
  have hsrc := Src.of_il hu
  rcases h with ⟨rfl, rfl⟩ | ⟨g, o, cap, cs, rfl, hBg, hg, hc, hm, hs, ht⟩
  · rcases hsrc with ⟨c, rfl, h0, _⟩ | ⟨ad, c, rfl, hx⟩
    · have : M = [] := List.eq_nil_of_length_eq_zero h0
      subst this
      exact ⟨_, w, run_append_noneC B 29 ty 3 i0 1 Tryz.underlying29 hi (.slice none 0 0) 0 c [] (World.ownsRow_nil _ _ _ _), .inl ⟨rfl, rfl⟩, Below.refl _ _⟩
    · obtain ⟨v', w', hr, h2, h3, h4⟩ := run_append_own (P := Tryz.prog) w B 29 ty 3 i0 (.int .i64 0) 1 8 Tryz.underlying29 hi hz0 hz1 hz2 rfl (by decide) (.slice none 0 0) 0 [] (World.ownsRow_nil _ _ _ _) ad M.length c (M.map intV) (by simp) hx (intV_one M) (by unfold maxLen; simp at hz; omega) (by simp at hz; omega) hB
      refine ⟨v', w', hr, WR.of ?_, (Below.refl B w).grown h3 hB (fun j hj => by cases hj)⟩
      unfold IR
      rw [List.nil_append] at h2 ⊢
      rw [Nat.zero_add] at h2
      exact h2
  · rcases hsrc with ⟨c, rfl, h0, _⟩ | ⟨ad, c, rfl, hx⟩
    · have : M = [] := List.eq_nil_of_length_eq_zero h0
      subst this
      refine ⟨.slice (some ⟨g, o, none⟩) l.length cap, w, ?_, ?_, Below.refl _ _⟩
      · simp [Builtin.append_, run_underlying Tryz.underlying29, sizeOf, typeInfo, hi, Builtin.lenOf, Builtin.firstCells, hc, storeCells]
      · rw [List.append_nil]
        exact .inr ⟨g, o, cap, cs, rfl, hBg, hg, hc, hm, hs, ht⟩
    · have hl : (M.map intV).length = M.length := List.length_map _
      by_cases hroom : l.length + M.length ≤ cap
      · have hsp : ∀ j, j < (M.map intV).length → (w.cell? ⟨g, o + l.length * i0.size + j, none⟩).isSome = true := by
          intro j hj
          rw [hl] at hj
          rw [Lib.cell_of_heap hg, hz1]
          have : o + l.length + j < cs.length := by omega
          simp [this]
        have hr := run_append_room_cells (P := Tryz.prog) w 29 ty 3 i0 Tryz.underlying29 hi g o l.length cap ad M.length c (M.map intV) (by rw [hz1, hl, Nat.mul_one]) hx (intV_one M) hroom hsp (fun j _ => Lib.frozen_of_heap hg _)
        rw [hz1, Nat.mul_one] at hr
        refine ⟨_, _, hr, ?_, setCells_below13 hBg _ _ _ _ (Below.refl _ _)⟩
        have hlen : (l ++ M).length = l.length + M.length := List.length_append
        refine .inr ⟨g, o, cap, splice cs (o + l.length) (M.map intV), by rw [hlen], hBg, heap_setCells13 _ _ _ _ hg (by rw [hl]; omega), by rw [hlen]; exact hroom, hm, by rw [length_splice _ _ _ (by rw [hl]; omega)]; exact hs, ?_⟩
        have := splice_seg cs o l.length (M.map intV) (by rw [hl]; omega)
        rw [hl] at this
        rw [hlen, this, ht, List.map_append]
      · have holds : ∀ j x, (l.map intV)[j]? = some x → w.cell? ((⟨g, o, none⟩ : Addr).add j) = some x := by
          intro j x hj
          have hadd : (⟨g, o, none⟩ : Addr).add j = ⟨g, o + j, none⟩ := by unfold Addr.add; split <;> simp_all
          have hjl : j < l.length := by
            have := (List.getElem?_eq_some_iff.1 hj).1
            rwa [List.length_map] at this
          rw [hadd, Lib.cell_of_heap hg]
          rw [← ht, List.getElem?_take_of_lt hjl, List.getElem?_drop] at hj
          simpa using hj
        obtain ⟨v', w', hr, h2, h3⟩ := run_append_arg_grows (P := Tryz.prog) w 29 ty 3 i0 (.int .i64 0) 1 8 Tryz.underlying29 hi hz0 hz1 hz2 rfl (by decide) ⟨g, o, none⟩ l.length cap (l.map intV) (by simp) holds ad M.length c (M.map intV) (by simp) hx (by omega) (by unfold maxLen; omega) (by omega)
        refine ⟨v', w', hr, WR.of ?_, (Below.refl B w).grown h3 hB (fun j hj => by cases hj)⟩
        have h4 : IR w.heap.size v' (l ++ M) w' := by
          unfold IR
          rw [List.length_append, List.map_append]
          exact h2
        refine ⟨h4.1, ?_⟩
        rcases h4.2 with hn | ⟨g', cap', cur, hv, hB', rest⟩
        · exact .inl hn
        · exact .inr ⟨g', cap', cur, hv, Nat.le_trans hB hB', rest⟩
theorem wpList_append_wr (w : World) {ops : Array Oper} {rest : List Oper} {o : Oper} {a : Act} {Q : Exit → Act → World → Prop} (hgd : o.guard = none) (s x : Operand)
    (ho : o.op = .call { callee := .builtin .append, args := #[s, x], argTypes := #[29, 29] })
    (B : Nat) (v : Value) (l : List Int) (hs : a.eval s = v) (h : WR B v l w) (hB : B ≤ w.heap.size) (u : Value) (M : List Int) (hx : a.eval x = u) (hu : IL u M w) (hz : l.length + M.length ≤ 1000000)
    (hk : ∀ v' w', WR B v' (l ++ M) w' → Below B w w' → wpList Tryz.prog ops Q rest (a.put o.dst v') w') : wpList Tryz.prog ops Q (o :: rest) a w :=
  wpList_plain hgd fun K hK => by
    obtain ⟨v', w', hr, h2, h3⟩ := wr_append h hB u M hu hz o.type
    have h6 : K (a.put o.dst v') w' := hK _ _ (hk v' w' h2 h3)
    unfold Oper.wp execOp
    simp only [ho, resolve, invoke, builtin, Sem.run_bind, Sem.run_pure, Result.andThen_ok, List.map_toArray, List.map_cons, List.map_nil, hs, hx, hr]
    exact h6
end

end Go.Proofs.YtmcolapcmjdoeaaGreatDoor
