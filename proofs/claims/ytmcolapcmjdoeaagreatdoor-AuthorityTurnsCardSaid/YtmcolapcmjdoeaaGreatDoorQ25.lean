/- Merged: E13, C13, QD13. -/
import Derived.Test.YtmcolapcmjdoeaaGreatDoorQ23
import Derived.Test.YtmcolapcmjdoeaaGreatDoorQ24
import Derived.Test.YtmcolapcmjdoeaaGreatDoorQ19
import Derived.Test.YtmcolapcmjdoeaaGreatDoorQ22
namespace Go.Proofs.YtmcolapcmjdoeaaGreatDoor

section

end

section
open Go.RowKit
/-- A file of moderate size, and a little more. -/
def bnd (L : List Au) : Prop := L.length ≤ 64 ∧ ∀ a ∈ L, a.see.length ≤ 100 ∧ a.above.length ≤ 100 ∧ ∀ x ∈ hdsX a, x.length ≤ 1000
theorem small_bnd (L : List Au) (h : smallA L = true) : bnd L := by
  rw [smallA_eq, Bool.and_eq_true, decide_eq_true_iff, List.all_eq_true] at h
  refine ⟨by omega, fun a ha => ?_⟩
  have := h.2 a ha
  unfold smallO at this
  rw [Bool.and_eq_true, Bool.and_eq_true, decide_eq_true_iff, decide_eq_true_iff, List.all_eq_true] at this
  obtain ⟨⟨h1, h2⟩, h3⟩ := this
  unfold hdsX at h1
  rw [List.length_cons] at h1
  exact ⟨by omega, by omega, fun x hx => Nat.le_trans (of_decide_eq_true (h3 x hx)) (by decide)⟩
/-- A later world that keeps what lay in w0, and what a call laid between w and w'. -/
def Kp (w0 w w' W : World) : Prop := (∀ i, i < w0.heap.size → W.heap[i]? = w0.heap[i]?) ∧ (∀ i, w.heap.size ≤ i → i < w'.heap.size → W.heap[i]? = w'.heap[i]?) ∧ w'.heap.size ≤ W.heap.size
theorem Kp.self {w0 w w' : World} (h0 : Below w0.heap.size w0 w) (h : Below w.heap.size w w') : Kp w0 w w' w' :=
  ⟨fun i hi => ((h0.trans (h.mono h0.size)).block i hi), fun _ _ _ => rfl, Nat.le_refl _⟩
theorem Kp.after {w0 w w' W V : World} (h : Kp w0 w w' W) (h0 : w0.heap.size ≤ w'.heap.size) (hb : Below W.heap.size W V) : Kp w0 w w' V :=
  ⟨fun i hi => (hb.block i (Nat.lt_of_lt_of_le (Nat.lt_of_lt_of_le hi h0) h.2.2)).trans (h.1 i hi), fun i h1 h2 => (hb.block i (Nat.lt_of_lt_of_le h2 h.2.2)).trans (h.2.1 i h1 h2), Nat.le_trans h.2.2 hb.size⟩
theorem Kp.set {w0 w w' W : World} (h : Kp w0 w w' W) (a : Addr) (v : Value) (h0 : w0.heap.size ≤ a.block) (h1 : a.block < w.heap.size ∨ w'.heap.size ≤ a.block) : Kp w0 w w' (W.setCell a v) := by
  refine ⟨fun i hi => ?_, fun i g1 g2 => ?_, Nat.le_trans h.2.2 (by simp [World.setCell])⟩
  · rw [Below.heap_setCell W a v i (by omega)]
    exact h.1 i hi
  · rw [Below.heap_setCell W a v i (by omega)]
    exact h.2.1 i g1 g2
/-- The contracts of package authority. -/
structure Pr13 : Prop where
  right : ∀ (v : Value) (L : List Au) (w : World), Env w → AL v L w → bnd L →
    Calls Tryz.prog 15 #[v] w fun e w' => e = .returned (.int .i64 (rightA L)) ∧ Below w.heap.size w w'
  get : ∀ (v : Value) (L : List Au) (id : Int) (w0 w : World), Env w → Below w0.heap.size w0 w → AL v L w0 → bnd L → rightA L = 0 →
    Calls Tryz.prog 10 #[v, .int .i64 id] w fun e w' => ∃ s t, e = .returned (.tuple #[AV ((getA L id).getD au0) s t, .bool (getA L id).isSome]) ∧ (∀ W, Kp w0 w w' W → AN ((getA L id).getD au0) s t W) ∧ Below w.heap.size w w'
  find : ∀ (v : Value) (L : List Au) (kd : Int) (h : List UInt8) (w : World), Env w → AL v L w → bnd L → rightA L = 0 → validT h = true → h.length ≤ 1000 → -9223372036854775808 ≤ kd ∧ kd ≤ 9223372036854775807 →
    Calls Tryz.prog 12 #[v, .int .i64 kd, .string (S h)] w fun e w' => e = .returned (.tuple #[.int .i64 (findA L kd h).1, .bool (findA L kd h).2.1, .bool (findA L kd h).2.2]) ∧ Below w.heap.size w w'
  add : ∀ (v : Value) (L : List Au) (a : Au) (s t : Value) (w : World), Env w → AL v L w → AN a s t w → bnd L → bnd [a] → rightA L = 0 →
    Calls Tryz.prog 16 #[v, AV a s t] w fun e w' => ∃ v', e = .returned (.tuple #[v', .int .i64 (addA L a).2]) ∧ AL v' (addA L a).1 w' ∧ Below w.heap.size w w'
  rename : ∀ (v : Value) (L : List Au) (id : Int) (h : List UInt8) (w0 w : World), Env w → Below w0.heap.size w0 w → AL v L w0 → bnd L → rightA L = 0 → validT h = true → h.length ≤ 1000 →
    Calls Tryz.prog 18 #[v, .int .i64 id, .string (S h)] w fun e w' => ∃ v', e = .returned (.tuple #[v', .int .i64 (renA L id h).2]) ∧ (∀ W, Kp w0 w w' W → AL v' (renA L id h).1 W) ∧ Below w.heap.size w w'
  merge : ∀ (v : Value) (L : List Au) (into gone : Int) (w : World), Env w → AL v L w → bnd L → rightA L = 0 →
    Calls Tryz.prog 21 #[v, .int .i64 into, .int .i64 gone] w fun e w' => ∃ v', e = .returned (.tuple #[v', .int .i64 (mergeA L into gone).2]) ∧ AL v' (mergeA L into gone).1 w' ∧ Below w.heap.size w w'
  remove : ∀ (v : Value) (L : List Au) (id : Int) (w : World), Env w → AL v L w → bnd L → rightA L = 0 →
    Calls Tryz.prog 17 #[v, .int .i64 id] w fun e w' => ∃ v', e = .returned (.tuple #[v', .int .i64 (remA L id).2]) ∧ AL v' (remA L id).1 w' ∧ Below w.heap.size w w'
  setAbove : ∀ (v : Value) (L : List Au) (id : Int) (u : Value) (l : List Int) (w : World), Env w → AL v L w → IL u l w → bnd L → l.length ≤ 100 → rightA L = 0 →
    Calls Tryz.prog 20 #[v, .int .i64 id, u] w fun e w' => ∃ v', e = .returned (.tuple #[v', .int .i64 (setA L id l).2]) ∧ AL v' (setA L id l).1 w' ∧ Below w.heap.size w w'
  above : ∀ (v : Value) (L : List Au) (id : Int) (w : World), Env w → AL v L w → bnd L → rightA L = 0 → 1 ≤ id ∧ id ≤ 9999 →
    Calls Tryz.prog 22 #[v, .int .i64 id] w fun e w' => ∃ v', e = .returned v' ∧ IL v' (aboveA L id) w' ∧ Below w.heap.size w w'
  below : ∀ (v : Value) (L : List Au) (id : Int) (w : World), Env w → AL v L w → bnd L → rightA L = 0 → 1 ≤ id ∧ id ≤ 9999 →
    Calls Tryz.prog 23 #[v, .int .i64 id] w fun e w' => ∃ v', e = .returned v' ∧ IL v' (belowA L id) w' ∧ Below w.heap.size w w'
end

section
open Go.RowKit Go.PlainAid
theorem bnd_len {L : List Au} (h : bnd L) : L.length ≤ 100000 ∧ ∀ a ∈ L, a.see.length ≤ 100000 ∧ a.above.length ≤ 100000 :=
  ⟨Nat.le_trans h.1 (by decide), fun a ha => ⟨Nat.le_trans (h.2 a ha).1 (by decide), Nat.le_trans (h.2 a ha).2.1 (by decide)⟩⟩
theorem an_own {B : Nat} {a : Au} {s t : Value} {w W : World} (hs : NR B s a.see w) (ht : IR B t a.above w) (hk : ∀ i, B ≤ i → i < w.heap.size → W.heap[i]? = w.heap[i]?) : AN a s t W :=
  ⟨NR.bl (B := B) (own_kept hs hk), IR.il (B := B) (own_kept ht hk)⟩

set_option maxHeartbeats 16000000 in
set_option maxRecDepth 100000 in
theorem get_any (v : Value) (L : List Au) (id : Int) (w0 w : World) (hb0 : Below w0.heap.size w0 w) (hv : AL v L w0) (hbn : bnd L) (hr : rightA L = 0) :
    Calls Tryz.prog 10 #[v, .int .i64 id] w fun e w' => ∃ s t, e = .returned (.tuple #[AV ((getA L id).getD au0) s t, .bool (getA L id).isSome]) ∧ (∀ W, Kp w0 w w' W → AN ((getA L id).getD au0) s t W) ∧ Below w.heap.size w w' := by
  obtain ⟨Q, hQ⟩ : ∃ Q, (fun (e : Ending) (w' : World) => ∃ s t, e = .returned (.tuple #[AV ((getA L id).getD au0) s t, .bool (getA L id).isSome]) ∧ (∀ W, Kp w0 w w' W → AN ((getA L id).getD au0) s t W) ∧ Below w.heap.size w w') = Q := ⟨_, rfl⟩
  rw [hQ]
  obtain ⟨hbl, hbz⟩ := bnd_len hbn
  have hasc := right_asc L hr
  obtain ⟨W0, hW0⟩ : ∃ W, w.alloc (.cells #[.int .i64 0, .int .i64 0, .string ⟨#[]⟩, .slice none 0 0, .slice none 0 0] 31) = W := ⟨_, rfl⟩
  have b0 : Below w.heap.size w W0 := by rw [← hW0]; exact (Below.refl _ _).alloc (Nat.le_refl _) _
  have hR0 : W0.heap[w.heap.size]? = some (.cells #[.int .i64 0, .int .i64 0, .string ⟨#[]⟩, .slice none 0 0, .slice none 0 0] 31 (0, 0)) := by rw [← hW0]; exact heap_alloc_new w _
  have hlt0 : w.heap.size < W0.heap.size := by rw [← hW0]; simp
  have HB0 := Lib.hid b0
  have HR0 := Lib.hid hR0
  have HV := Lib.hid ((hv.after hb0).after b0)
  have cP := Lib.hid (place_any v L id W0 HV.out hasc (by omega))
  have HC := Lib.hid (fun (a : Au) (s t : Value) (W : World) (h : AN a s t W) (h1 : a.see.length ≤ 100000) (h2 : a.above.length ≤ 100000) => clone_any a s t W h h1 h2)
  have HZ := Lib.hid hbz
  have HW0 := Lib.hid hW0
  cases hg : getA L id with
  | none =>
    rw [hg] at hQ cP
    have HQ : RowKit.Hid (∀ W, Below w.heap.size w W → Q (.returned (.tuple #[.agg #[.int .i64 0, .int .i64 0, .string ⟨#[]⟩, .slice none 0 0, .slice none 0 0], .bool false])) W) := by
      rw [← hQ]
      exact fun W h => ⟨.slice none 0 0, .slice none 0 0, rfl, fun V _ => ⟨⟨none, 0, rfl, Nat.le_refl _, Nat.zero_le _, fun _ => rfl, fun i hi => by cases hi⟩, IL.nil _⟩, h⟩
    obtain ⟨va, vc, rfl, hc1, hc2⟩ := hv.length
    obtain ⟨k, hk⟩ : ∃ k, plcA L id = k := ⟨_, rfl⟩
    rw [hk] at cP
    have hb : (Option.isSome (none : Option Au)) = false := rfl
    rw [hb] at cP
    clear hQ hv HV hg hW0 hR0 b0 hk hb HC HZ hbz hbn hr hasc
    generalize L.length = n at *
    go_enter Tryz.func10, Tryz.ntmps10
    go_upto_region 1 with fail
    rw [HW0.out]
    clear HW0
    go_wp2_with fail
    refine cP.out.mono ?_
    rintro e w2 ⟨rfl, hb2⟩
    have hR2 := (hb2.block _ hlt0).trans HR0.out
    have hbx := HB0.out.trans (hb2.mono HB0.out.size)
    have hres := au_set5 (x0 := .int .i64 0) (x1 := .int .i64 0) (x2 := .string ⟨#[]⟩) (x3 := .slice none 0 0) (x4 := .slice none 0 0) hR2
    have hfin := HQ.out _ (au_below (x0 := .int .i64 0) (x1 := .int .i64 0) (x2 := .string ⟨#[]⟩) (x3 := .slice none 0 0) (x4 := .slice none 0 0) (b := w.heap.size) hbx (Nat.le_refl _))
    unfold setA5 at hres hfin
    have Hres := Lib.hid hres
    have Hfin := Lib.hid hfin
    obtain ⟨⟨r0, r1, r2, r3, r4⟩, k0, k1, k2, k3, k4⟩ := acells hR2
    clear hres hfin hR2 hbx hb2
    go_wp2
    (try simp only [Exit.inBlock, Exit.then])
    refine bodyPost_ret (results_au rfl _ _ w.heap.size _ _ _ _ rfl Hres.out Tryz.underlying31 rfl (by kernel_rfl)) rfl ?_
    exact Hfin.out
  | some a =>
    obtain ⟨hkl, hka, hid⟩ := get_plc_eq L id hasc a hg
    rw [hg] at hQ cP
    have hmem : a ∈ L := (get_some L id a hg).1
    obtain ⟨k, hk⟩ : ∃ k, plcA L id = k := ⟨_, rfl⟩
    rw [hk] at cP hkl hka
    have HQ : RowKit.Hid (∀ s t W1 W, NR w.heap.size s a.see W1 → IR w.heap.size t a.above W1 → Below w.heap.size w W → (∀ i, w.heap.size < i → W.heap[i]? = W1.heap[i]?) → (∀ g, s.ownBlock = some g → w.heap.size < g ∧ g < W.heap.size) → (∀ g, t.ownBlock = some g → w.heap.size < g ∧ g < W.heap.size) → Q (.returned (.tuple #[.agg #[.int .i64 a.id, .int .i64 a.kind, .string (S a.heading), s, t], .bool true])) W) := by
      rw [← hQ]
      intro s t W1 W h1 h2 h3 h4 h5 h6
      refine ⟨s, t, rfl, fun V hV => ?_, h3⟩
      have keep : ∀ {e n : Nat} {u : Value} {xs : List Value}, (∀ g, u.ownBlock = some g → w.heap.size < g ∧ g < W.heap.size) → W1.ownsRow w.heap.size e 1 u n xs → V.ownsRow w.heap.size e 1 u n xs := by
        intro e n u xs hu h
        refine ⟨h.1, ?_⟩
        rcases h.2 with hn | ⟨g, cap, cur, rfl, hB', hg', rest⟩
        · exact .inl hn
        · obtain ⟨q1, q2⟩ := hu g rfl
          exact .inr ⟨g, cap, cur, rfl, hB', ((hV.2.1 g (by omega) q2).trans (h4 g q1)).trans hg', rest⟩
      exact ⟨NR.bl (B := w.heap.size) (keep h5 h1), IR.il (B := w.heap.size) (keep h6 h2)⟩
    obtain ⟨va, vc, rfl, hc1, hc2⟩ := hv.length
    obtain ⟨n, hn⟩ : ∃ n, L.length = n := ⟨_, rfl⟩
    have HN := Lib.hid hn
    rw [hn] at HV hkl cP hc1 ⊢
    have hb : (some a).isSome = true := rfl
    rw [hb] at cP
    have HZ2 := Lib.hid (HZ.out a hmem)
    have HKa := Lib.hid hka
    have i1 : (0 : Int) ≤ (k : Int) := by omega
    have i2 : (k : Int) < (n : Int) := by omega
    clear hQ hv hg hW0 hR0 b0 hk hb HZ hbz hbn hr hasc hka hn hmem hid
    go_enter Tryz.func10, Tryz.ntmps10
    go_upto_region 1 with fail
    rw [HW0.out]
    clear HW0
    go_wp2_with fail
    refine cP.out.mono ?_
    rintro e w2 ⟨rfl, hb2⟩
    obtain ⟨g, o, cap', s, t, he, hg, c0, c1, c2, c3, c4, hq⟩ := (HV.out.after hb2).at k (by rw [HN.out]; exact hkl)
    obtain ⟨rfl, -, hcp⟩ := Value.slice.inj he
    rw [HKa.out] at c0 c1 c2 hq
    obtain ⟨as2, cs2, hs2, -, -⟩ := hq.1.length
    obtain ⟨at2, ct2, ht2, -⟩ := hq.2
    have cC := Lib.hid (HC.out a s t w2 hq HZ2.out.1 HZ2.out.2)
    unfold AV at cC
    have HB2 := Lib.hid hb2
    subst hs2 ht2
    clear he hcp hq hb2
    go_wp2_with fail
    refine cC.out.mono ?_
    rintro e w6 ⟨s', t', rfl, hs', ht', hb6⟩
    have hb06 := HB2.out.trans (hb6.mono HB2.out.size)
    have hR6 := (hb06.block _ hlt0).trans HR0.out
    have hbx := HB0.out.trans (hb06.mono HB0.out.size)
    have hlt2 : w.heap.size < w2.heap.size := Nat.lt_of_lt_of_le hlt0 HB2.out.size
    have hres := au_set5 (x0 := .int .i64 a.id) (x1 := .int .i64 a.kind) (x2 := .string (S a.heading)) (x3 := s') (x4 := t') hR6
    have hsz5 : (setA5 w6 w.heap.size (.int .i64 a.id) (.int .i64 a.kind) (.string (S a.heading)) s' t').heap.size = w6.heap.size := by simp [setA5, World.setCell]
    have hfin := HQ.out s' t' w6 (setA5 w6 w.heap.size (.int .i64 a.id) (.int .i64 a.kind) (.string (S a.heading)) s' t') (hs'.base (Nat.le_of_lt hlt2)) (ht'.base (Nat.le_of_lt hlt2)) (au_below hbx (Nat.le_refl _))
      (fun i hi => by unfold setA5; rw [Below.heap_setCell _ _ _ i (Nat.ne_of_gt hi), Below.heap_setCell _ _ _ i (Nat.ne_of_gt hi), Below.heap_setCell _ _ _ i (Nat.ne_of_gt hi), Below.heap_setCell _ _ _ i (Nat.ne_of_gt hi), Below.heap_setCell _ _ _ i (Nat.ne_of_gt hi)])
      (fun g hg => ⟨Nat.lt_of_lt_of_le hlt2 (hs'.lt g hg).1, by rw [hsz5]; exact (hs'.lt g hg).2⟩)
      (fun g hg => ⟨Nat.lt_of_lt_of_le hlt2 (ht'.lt g hg).1, by rw [hsz5]; exact (ht'.lt g hg).2⟩)
    obtain ⟨as6, cs6, rfl, -, -⟩ := own_form13 hs'
    obtain ⟨at6, ct6, rfl, -, -⟩ := own_form13 ht'
    unfold setA5 at hres hfin
    have Hres := Lib.hid hres
    have Hfin := Lib.hid hfin
    obtain ⟨⟨r0, r1, r2, r3, r4⟩, k0, k1, k2, k3, k4⟩ := acells hR6
    clear hres hfin hR6 hbx hb06 hb6 hs' ht' hsz5 c0 c1 c2 c3 c4
    go_wp2
    (try simp only [Exit.inBlock, Exit.then])
    refine bodyPost_ret (results_au rfl _ _ w.heap.size _ _ _ _ rfl Hres.out Tryz.underlying31 rfl (by kernel_rfl)) rfl ?_
    exact Hfin.out
end

end Go.Proofs.YtmcolapcmjdoeaaGreatDoor
