/- Merged: QP13, QR13, T13. -/
import Derived.Test.YtmcolapcmjdoeaaGreatDoorQ33
import Derived.Lib.SliceRun
import Derived.Deep.RegionHeld
import Derived.Test.YtmcolapcmjdoeaaGreatDoorQ25
import Derived.RegionTactic
import Derived.BigRegion
namespace Go.Proofs.YtmcolapcmjdoeaaGreatDoor

section
open Go.RowKit Go.PlainAid Go.Maps
def bnd1 (L : List Au) : Prop := L.length ≤ 1000 ∧ ∀ a ∈ L, a.see.length ≤ 100 ∧ a.above.length ≤ 100 ∧ ∀ x ∈ hdsX a, x.length ≤ 1000
set_option maxHeartbeats 4000000 in
theorem right_long (v : Value) (L : List Au) (w : World) (hv : AL v L w) (hl : 64 < L.length) (hz : L.length ≤ 1000) :
    Calls Tryz.prog 15 #[v] w fun e w' => e = .returned (.int .i64 (rightA L)) ∧ Below w.heap.size w w' := by
  have hr : rightA L = 13 := by unfold rightA; rw [if_pos hl]
  rw [hr]
  obtain ⟨va, vc, rfl, hc1, hc2⟩ := hv.length
  generalize L.length = n at *
  have t64 : decide ((64 : Int) < (n : Int)) = true := decide_eq_true (by omega)
  clear hv hr
  go_enter Tryz.func15, Tryz.ntmps15
  go_wp2
  go_ret
  exact ⟨rfl, Below.refl _ _⟩
theorem right1_any (v : Value) (L : List Au) (w : World) (hE : Env w) (hv : AL v L w) (hb : bnd1 L) :
    Calls Tryz.prog 15 #[v] w fun e w' => e = .returned (.int .i64 (rightA L)) ∧ Below w.heap.size w w' := by
  by_cases h : 64 < L.length
  · exact right_long v L w hv h hb.1
  · exact right_any v L w hE hv ⟨by omega, hb.2⟩
set_option maxHeartbeats 8000000 in
theorem checked1_any (v : Value) (L : List Au) (w : World) (hE : Env w) (hv : AL v L w) (hb : bnd1 L) (v' : Value) (hv' : (if rightA L = 0 then v else nilV) = v') :
    Calls Tryz.prog 43 #[v] w fun e w' => e = .returned (.tuple #[v', .int .i64 (checkA L).2]) ∧ Below w.heap.size w w' := by
  have cR := Lib.hid (right1_any v L w hE hv hb)
  obtain ⟨va, vc, rfl, hc1, hc2⟩ := hv.length
  rw [check_fst]
  obtain ⟨r, hr⟩ : ∃ r, rightA L = r := ⟨_, rfl⟩
  rw [hr] at cR hv' ⊢
  generalize L.length = n at *
  clear hv hb hE hr hc1 hc2
  unfold nilV at hv'
  by_cases h0 : r = 0
  · subst h0
    rw [if_pos rfl] at hv'
    subst hv'
    go_enter Tryz.func43, Tryz.ntmps43
    go_wp2_with fail
    refine cR.out.mono ?_
    rintro e w1 ⟨rfl, hb1⟩
    go_wp2
    go_ret2
    exact ⟨rfl, hb1⟩
  · rw [if_neg h0] at hv'
    subst hv'
    have t0 : (r == 0) = false := by simpa using h0
    have t1 : (r != 0) = true := by simpa using h0
    clear h0
    go_enter Tryz.func43, Tryz.ntmps43
    go_wp2_with fail
    refine cR.out.mono ?_
    rintro e w1 ⟨rfl, hb1⟩
    go_wp2
    go_ret2
    exact ⟨rfl, hb1⟩
theorem apt_ins {F : List Ent} {f : Ent → Value} (h : F.Pairwise fun x y => Apt (f x) (f y)) (k : Nat) (y : Ent) (hy : ∀ x ∈ F, Apt (f y) (f x)) : (F.take k ++ y :: F.drop k).Pairwise fun x y => Apt (f x) (f y) := by
  rw [List.pairwise_append, List.pairwise_cons]
  have h2 := List.take_append_drop k F
  have h3 : (F.take k ++ F.drop k).Pairwise fun x y => Apt (f x) (f y) := by rw [h2]; exact h
  rw [List.pairwise_append] at h3
  refine ⟨h3.1, ⟨fun z hz => hy z (List.mem_of_mem_drop hz), h3.2.1⟩, fun a ha b hb => ?_⟩
  rcases List.mem_cons.1 hb with rfl | hb
  · exact (hy a (List.mem_of_mem_take ha)).symm
  · exact h3.2.2 a ha b hb
theorem FR.ins {B : Nat} {v v' : Value} {F : List Ent} {w w' : World} (h : FR B v F w) (k : Nat) (y : Ent) (hs : NR B y.2.1 y.1.see w) (ht : IR B y.2.2 y.1.above w) (hsa : ∀ x ∈ F, Apt y.2.1 x.2.1) (hta : ∀ x ∈ F, Apt y.2.2 x.2.2)
    (hrow : w'.ownsRow B 31 5 v' (F.length + 1) ((F.flatMap cellsU).take (k * 5) ++ (cellsU y ++ (F.flatMap cellsU).drop (k * 5)))) (hg : w.grownBy w' v.ownBlock) : FR B v' (F.take k ++ y :: F.drop k) w' := by
  have hl : (F.take k ++ y :: F.drop k).length = F.length + 1 := by rw [List.length_append, List.length_cons, List.length_take, List.length_drop]; omega
  have hmem : ∀ x ∈ F.take k ++ y :: F.drop k, x = y ∨ x ∈ F := by
    intro x hx
    rcases List.mem_append.1 hx with hx | hx
    · exact .inr (List.mem_of_mem_take hx)
    · rcases List.mem_cons.1 hx with hx | hx
      · exact .inl hx
      · exact .inr (List.mem_of_mem_drop hx)
  refine ⟨?_, fun x hx => ?_, fun x hx => ?_, apt_ins h.sap k y hsa, apt_ins h.aap k y hta⟩
  · rw [hl, List.flatMap_append, List.flatMap_cons, ← flat_take, ← flat_drop]
    exact hrow
  · rcases hmem x hx with rfl | hx
    · exact hs.kept hg (own_types hs h.row ne_string)
    · exact (h.see x hx).kept hg (own_types (h.see x hx) h.row ne_string)
  · rcases hmem x hx with rfl | hx
    · exact ht.kept hg (own_types ht h.row ne_int)
    · exact (h.abv x hx).kept hg (own_types (h.abv x hx) h.row ne_int)
theorem cellsU_ent (a : Au) (n m : Nat) (sa ta : Option Addr) (cs ct : Nat) : ∀ u ∈ cellsU (a, .slice sa n cs, .slice ta m ct), u.oneCell' = true := by
  intro u hu
  simp only [cellsU, List.mem_cons, List.not_mem_nil, or_false] at hu
  rcases hu with rfl | rfl | rfl | rfl | rfl <;> rfl

theorem ins_step (B : Nat) (v : Value) (F : List Ent) (k : Nat) (a : Au) (s t : Value) (w2 w3 : World) (hF : FR B v F w2) (hn : v ≠ .slice none 0 0) (hb3 : Below w2.heap.size w2 w3) (hs : NR B s a.see w3) (ht : IR B t a.above w3) (hs2 : NR w2.heap.size s a.see w3) (ht2 : IR w2.heap.size t a.above w3) (hk : k ≤ F.length) (hz : F.length ≤ 10000) (hB : B ≤ w3.heap.size) :
    Calls Tryz.prog 44 #[v, .int .i64 (k : Int), .slice (some ⟨w3.heap.size, 0, none⟩) 1 1] (w3.alloc (.cells #[.int .i64 a.id, .int .i64 a.kind, .string (S a.heading), s, t] 31)) fun e w' => ∃ v', e = .returned v' ∧ FR B v' (F.take k ++ (a, s, t) :: F.drop k) w' ∧ Below B w3 w' := by
  obtain ⟨W4, hW4⟩ : ∃ W, w3.alloc (.cells #[.int .i64 a.id, .int .i64 a.kind, .string (S a.heading), s, t] 31) = W := ⟨_, rfl⟩
  have b4 : Below w3.heap.size w3 W4 := by rw [← hW4]; exact (Below.refl _ _).alloc (Nat.le_refl _) _
  have hR4 : W4.heap[w3.heap.size]? = some (.cells (cellsU (a, s, t)).toArray 31 (0, 0)) := by rw [← hW4]; exact heap_alloc_new w3 _
  have hF4 := (hF.after hb3).after b4
  rw [hW4]
  obtain ⟨sa, sc, hsv, -, -⟩ := own_form13 hs
  obtain ⟨ta, tc, htv, -, -⟩ := own_form13 ht
  have hone : ∀ u ∈ cellsU (a, s, t), u.oneCell' = true := by rw [hsv, htv]; exact cellsU_ent a _ _ _ _ _ _
  refine (insA_any B v F.length k (F.flatMap cellsU) W4 hF4.row hn (Nat.le_trans hB b4.size) hk hz (cellsU_one hF4) (cellsU (a, s, t)) rfl hone w3.heap.size hR4 (fun e => ?_)).mono ?_
  · have := (hF.after hb3).row.lt _ e
    omega
  · rintro e w' ⟨v', rfl, hrow, hg, -, -⟩
    refine ⟨v', rfl, hF4.ins k (a, s, t) (hs.after b4) (ht.after b4) (fun x hx => ?_) (fun x hx => ?_) hrow hg, ?_⟩
    · exact apt_fresh hs2 (Nat.le_refl _) (hF.see x hx)
    · exact apt_fresh ht2 (Nat.le_refl _) (hF.abv x hx)
    · exact (b4.mono hB).grown hg (Nat.le_trans hB b4.size) (fun j hj => (hF4.row.lt j hj).1)

set_option maxHeartbeats 32000000 in
set_option maxRecDepth 100000 in
theorem add_any (v : Value) (L : List Au) (a : Au) (s t : Value) (w : World) (hE : Env w) (hv : AL v L w) (hq : AN a s t w) (hb : bnd L) (hba : bnd [a]) (hr : rightA L = 0) :
    Calls Tryz.prog 16 #[v, AV a s t] w fun e w' => ∃ v', e = .returned (.tuple #[v', .int .i64 (addA L a).2]) ∧ AL v' (addA L a).1 w' ∧ Below w.heap.size w w' := by
  obtain ⟨Q, hQ⟩ : ∃ Q, (fun (e : Ending) (w' : World) => ∃ v', e = .returned (.tuple #[v', .int .i64 (addA L a).2]) ∧ AL v' (addA L a).1 w' ∧ Below w.heap.size w w') = Q := ⟨_, rfl⟩
  rw [hQ]
  have HQ : RowKit.Hid (∀ v' r W, (addA L a).2 = r → AL v' (addA L a).1 W → Below w.heap.size w W → Q (.returned (.tuple #[v', .int .i64 r])) W) := by
    rw [← hQ]
    exact fun v' r W h0 h1 h2 => ⟨v', by rw [h0], h1, h2⟩
  obtain ⟨hbl, hbz⟩ := bnd_len hb
  have hasc := right_asc L hr
  have hba1 := hba.2 a (by simp)
  obtain ⟨W0, hW0⟩ : ∃ W, w.alloc (.cells #[.int .i64 a.id, .int .i64 a.kind, .string (S a.heading), s, t] 31) = W := ⟨_, rfl⟩
  have b0 : Below w.heap.size w W0 := by rw [← hW0]; exact (Below.refl _ _).alloc (Nat.le_refl _) _
  have hR0 : W0.heap[w.heap.size]? = some (.cells #[.int .i64 a.id, .int .i64 a.kind, .string (S a.heading), s, t] 31 (0, 0)) := by rw [← hW0]; exact heap_alloc_new w _
  have hlt0 : w.heap.size < W0.heap.size := by rw [← hW0]; simp
  have HBox := Lib.hid (fun (W : World) (h : Below W0.heap.size W0 W) => acells ((h.block w.heap.size hlt0).trans hR0))
  have HB0 := Lib.hid b0
  have HW0 := Lib.hid hW0
  have cP := Lib.hid (place_any v L a.id W0 (hv.after b0) hasc (by omega))
  have cA := Lib.hid (fun (W : World) (h : Below W0.heap.size W0 W) => cloneAllN_any v L W ((hv.after b0).after h) hbl hbz)
  have cCl := Lib.hid (fun (W : World) (h : Below W0.heap.size W0 W) => clone_any a s t W ((hq.after b0).after h) (by have := hba1.1; omega) (by have := hba1.2.1; omega))
  have cC := Lib.hid (fun (v : Value) (M : List Au) (W : World) (h : Below w.heap.size w W) (hv : AL v M W) (hb : bnd1 M) (v' : Value) (hv' : (if rightA M = 0 then v else nilV) = v') => checked1_any v M W (hE.after h) hv hb v' hv')
  obtain ⟨va, vc, rfl, hc1, hc2⟩ := hv.length
  obtain ⟨as0, cs0, hs0, -, -⟩ := hq.1.length
  obtain ⟨at0, ct0, ht0, -⟩ := hq.2
  subst hs0 ht0
  obtain ⟨⟨x0, x1, x2, x3, x4⟩, -⟩ := HBox.out W0 (Below.refl _ _)
  cases hg : getA L a.id with
  | some b =>
    have hs : addA L a = ([], 7) := by unfold addA; rw [hg]; rfl
    rw [hg] at cP
    rw [hs] at HQ
    have hno := Lib.hid (fun W h => HQ.out (.slice none 0 0) 7 W rfl (AL.nil W) h)
    have hb0 : (Option.isSome (some b)) = true := rfl
    rw [hb0] at cP
    clear hQ HQ hs hg hE hv hb hr hasc cA cCl cC hbl hbz hb0 hba hba1 hW0 hR0 b0 hq HBox
    unfold AV
    generalize plcA L a.id = k at *
    generalize L.length = n at *
    go_enter Tryz.func16, Tryz.ntmps16
    go_upto_region 1 with fail
    rw [HW0.out]
    go_wp2_with fail
    refine cP.out.mono ?_
    rintro e w1 ⟨rfl, hb1⟩
    have hn := hno.out w1 (HB0.out.trans (hb1.mono HB0.out.size))
    clear hb1
    go_wp2
    first | exact hn | (go_ret2; exact hn)
  | none =>
    have hne : ∀ b ∈ L, b.id ≠ a.id := get_none L a.id hg
    have hs : addA L a = checkA (L.take (plcA L a.id) ++ a :: L.drop (plcA L a.id)) := by
      unfold addA
      rw [hg]
      show checkA (insA L a) = _
      rw [ins_plc a L hasc hne]
    have hbs : bnd1 (L.take (plcA L a.id) ++ a :: L.drop (plcA L a.id)) := by
      refine ⟨?_, fun b hb' => ?_⟩
      · rw [List.length_append, List.length_cons, List.length_take, List.length_drop]
        have := hb.1
        have := plc_le Au.id L a.id
        unfold plcA
        omega
      · rcases List.mem_append.1 hb' with h | h
        · exact hb.2 b (List.mem_of_mem_take h)
        · rcases List.mem_cons.1 h with rfl | h
          · exact hba1
          · exact hb.2 b (List.mem_of_mem_drop h)
    have hkl := plc_le Au.id L a.id
    rw [hg] at cP
    have hb0 : (Option.isSome (none : Option Au)) = false := rfl
    rw [hb0] at cP
    rw [hs] at HQ
    have hkl' : plcA L a.id ≤ L.length := hkl
    obtain ⟨k, hk⟩ : ∃ k, plcA L a.id = k := ⟨_, rfl⟩
    rw [hk] at cP hbs HQ hkl'
    have HBs := Lib.hid hbs
    obtain ⟨n, hn⟩ : ∃ n, L.length = n := ⟨_, rfl⟩
    have HN := Lib.hid hn
    have hn64 := hb.1
    rw [hn] at cP cA hkl' hbl hn64 ⊢
    obtain ⟨M, hM⟩ : ∃ M, L.take k ++ a :: L.drop k = M := ⟨_, rfl⟩
    have HM := Lib.hid hM
    rw [hM] at HQ HBs
    clear hQ hs hg hE hv hb hr hasc hbz hb0 hba hba1 hW0 hR0 b0 hq hne hbs hkl hk hn hM
    unfold AV at cCl ⊢
    go_enter Tryz.func16, Tryz.ntmps16
    go_upto_region 1 with fail
    rw [HW0.out]
    go_wp2_with fail
    refine cP.out.mono ?_
    rintro e w1 ⟨rfl, hb1⟩
    have HB1 := Lib.hid hb1
    have hbd : Below W0.heap.size W0 w1.drew := hb1.drew
    have HBd := Lib.hid hbd
    obtain ⟨⟨y0, y1, y2, y3, y4⟩, -⟩ := HBox.out w1 hb1
    clear hb1 cP x0 x1 x2 x3 x4
    go_upto_region 4 with fail
    go_region_law (first
      | (go_simp; go_at_call 45; refine (cA.out _ hbd).mono ?_; rintro e w2 ⟨v2, F, rfl, hF2, hM2, hb2, hn2⟩; have hB2 : Below W0.heap.size W0 w2 := HBd.out.trans (hb2.mono HBd.out.size); have HB2 := Lib.hid hB2; have HF2 := Lib.hid hF2; have HM2 := Lib.hid hM2; have HN2 := Lib.hid hn2; obtain ⟨⟨z0, z1, z2, z3, z4⟩, -⟩ := HBox.out w2 hB2; obtain ⟨a2, c2, hv2, -, -⟩ := hF2.form; clear hF2 hM2 hb2 hn2)
      | (go_simp; go_at_call 35; refine (cCl.out _ hB2).mono ?_; rintro e w3 ⟨s3, t3, rfl, hs3, ht3, hb3⟩; have HB3 := Lib.hid hb3; have HS3 := Lib.hid hs3; have HT3 := Lib.hid ht3; obtain ⟨sa3, sc3, hsv3, -, -⟩ := own_form13 hs3; obtain ⟨ta3, tc3, htv3, -, -⟩ := own_form13 ht3; subst hsv3 htv3; have cIx := Lib.hid (ins_step W0.heap.size v2 F k a _ _ w2 w3 (HF2.out.base HBd.out.size) HN2.out HB3.out (hs3.base hB2.size) (ht3.base hB2.size) hs3 ht3 (by have := congrArg List.length HM2.out; rw [List.length_map] at this; have := HN.out; omega) (by have := congrArg List.length HM2.out; rw [List.length_map] at this; have := HN.out; omega) (Nat.le_trans hB2.size HB3.out.size)); subst hv2; clear hs3 ht3 hb3)
      | (go_simp; go_at_call 44; refine cIx.out.mono ?_; rintro e w5 ⟨v5, rfl, hF5, hb5⟩; have hm5 : (F.take k ++ (a, Value.slice sa3 a.see.length sc3, Value.slice ta3 a.above.length tc3) :: F.drop k).map (·.1) = M := (by rw [List.map_append, List.map_cons, List.map_take, List.map_drop, HM2.out]; exact HM.out); have hB5 : Below w.heap.size w w5 := HB0.out.trans (((HB2.out.trans (HB3.out.mono HB2.out.size)).trans hb5).mono HB0.out.size); have hal5 := hF5.al; rw [hm5] at hal5; obtain ⟨v6, hv6⟩ : ∃ q, (if rightA M = 0 then v5 else nilV) = q := ⟨_, rfl⟩; have cC5 := Lib.hid (cC.out v5 M w5 hB5 hal5 HBs.out v6 hv6); have HF5 := Lib.hid hF5; have HM5 := Lib.hid hm5; have HB5 := Lib.hid hB5; have HV6 := Lib.hid hv6; clear hF5 hb5 hm5 hB5 hal5 hv6)
      | (go_simp; go_at_call 43; refine cC5.out.mono ?_; rintro e w6 ⟨rfl, hb6⟩; have hfin6 := HQ.out v6 _ w6 rfl (by have := checked_al (HF5.out.after hb6) (v' := v6) (by rw [HM5.out]; exact HV6.out); rwa [HM5.out] at this) (HB5.out.trans (hb6.mono HB5.out.size)); clear hb6))
    all_goals
      go_wp2
      first | exact hfin6 | (go_ret2; exact hfin6)
end

section
open Go.RowKit Go.PlainAid Go.Maps
theorem renf_any (s x : List UInt8) (b : Nat) (w : World) (hE : Env w) (_hb : b < w.heap.size) (hc : w.cell? ⟨b, 0, none⟩ = some (.string (S s))) (hs : validT s = true) (hsl : s.length ≤ 9000) (hx : validT x = true) (hxl : x.length ≤ 9000) (r : Bool) (hr : sameX x s = r) :
    Calls Tryz.prog 49 #[.string (S x), .pointer (some ⟨b, 0, none⟩)] w fun e w' => e = .returned (.bool r) ∧ Below w.heap.size w w' := by
  have cS := Lib.hid (pSame12_any x s hx hxl hs hsl w hE)
  rw [hr] at cS
  clear hE hs hx hr
  generalize S s = y at *
  generalize S x = z at *
  go_enter Tryz.func49, Tryz.ntmps49
  go_wp2_with fail
  refine cS.out.mono ?_
  rintro e w1 ⟨rfl, hb1⟩
  go_wp2
  go_ret
  exact ⟨rfl, hb1⟩

/-- The function of s that Rename makes. -/
def RFn (s : List UInt8) (fv : Value) (W : World) : Prop :=
  ∃ b, fv = .func (.func 49) #[] #[.pointer (some ⟨b, 0, none⟩)] ∧ b < W.heap.size ∧ W.heap[b]? = some (.cells #[.string (S s)] 9 (0, 0))

set_option maxHeartbeats 8000000 in
theorem indexR_any (L : List (List UInt8)) (u : Value) (w : World) (hE : Env w) (hu : BL u L w) (hL : ∀ x ∈ L, validT x = true ∧ x.length ≤ 9000) (s : List UInt8) (hs : validT s = true) (hsl : s.length ≤ 9000) (b : Nat) (hb : b < w.heap.size) (hbc : w.cell? ⟨b, 0, none⟩ = some (.string (S s))) (k : Nat) (hk : k ≤ L.length) (hj : ∀ j, j < k → sameX (L.getD j []) s = false) (he : k < L.length → sameX (L.getD k []) s = true) (r : Int) (hr : (if k < L.length then (k : Int) else -1) = r) :
    Calls Tryz.prog 76 #[u, .func (.func 49) #[] #[.pointer (some ⟨b, 0, none⟩)]] w fun e w' => e = .returned (.int .i64 r) ∧ Below w.heap.size w w' := by
  have HU := Lib.hid hu
  obtain ⟨a, cap, rfl, hcap, hmax, _, _⟩ := hu
  unfold maxLen at hmax
  have cI := Lib.hid (fun (x : List UInt8) (hx : x ∈ L) (W : World) (hw : Below w.heap.size w W) (r : Bool) (hr : sameX x s = r) => renf_any s x b W (hE.after hw) (Nat.lt_of_lt_of_le hb hw.size) ((hw.cell (p := ⟨b, 0, none⟩) hb).trans hbc) hs hsl (hL x hx).1 (hL x hx).2 r hr)
  obtain ⟨n, hn⟩ : ∃ n, L.length = n := ⟨_, rfl⟩
  rw [hn] at hcap hk he hr HU ⊢
  have HN := Lib.hid hn
  have HJ := Lib.hid hj
  have HT := Lib.hid he
  clear hn hj he hE hbc hs hsl hL hb
  go_enter Tryz.func76, Tryz.ntmps76
  go_wp2
  go_loopw [8] (fun i wr => ∃ m : Nat, m ≤ k ∧ i = .int .i64 (m : Int) ∧ RowKit.Hid (Below w.heap.size w wr)) (fun i _ => n - (intOf i).toNat)
  case atStart => exact ⟨0, Nat.zero_le _, rfl, Below.refl _ _⟩
  case round =>
    obtain ⟨m, hm, rfl, HB⟩ := hrel
    by_cases hmk : m < n
    · obtain ⟨g, o, cap', e0, hg, c1⟩ := (HU.out.after HB.out).at12 m (by rw [HN.out]; exact hmk)
      obtain ⟨rfl, -, hcp⟩ := Value.slice.inj e0
      have i1 : (0 : Int) ≤ (m : Int) := by omega
      have i2 : (m : Int) < (n : Int) := by omega
      have hmem : L.getD m [] ∈ L := by
        rw [List.getD_eq_getElem?_getD, List.getElem?_eq_getElem (by rw [HN.out]; exact hmk)]
        exact List.getElem_mem _
      clear e0 hcp hg
      by_cases hmk2 : m < k
      · have hc := Lib.hid (cI.out _ hmem wr HB.out false (HJ.out m hmk2))
        clear hmem
        generalize S (L.getD m []) = y at *
        go_wp2_with fail
        refine hc.out.mono ?_
        rintro e w1 ⟨rfl, hb1⟩
        have HB2 := Lib.hid (HB.out.trans (hb1.mono HB.out.size))
        clear hb1 HB
        go_wp2
        go_roundw
        case rel => exact ⟨m + 1, by omega, by go_num, HB2.out⟩
        case measure => simp [intOf]; omega
      · obtain rfl : m = k := by omega
        rw [if_pos hmk] at hr
        subst hr
        have hc := Lib.hid (cI.out _ hmem wr HB.out true (HT.out hmk))
        clear hmem
        generalize S (L.getD m []) = y at *
        go_wp2_with fail
        refine hc.out.mono ?_
        rintro e w1 ⟨rfl, hb1⟩
        have HB2 := Lib.hid (HB.out.trans (hb1.mono HB.out.size))
        clear hb1 HB
        go_wp2
        go_ret
        exact ⟨rfl, HB2.out⟩
    · obtain rfl : m = n := by omega
      rw [if_neg (by omega)] at hr
      subst hr
      go_wp2
      go_ret
      exact ⟨rfl, HB.out⟩

/-! Stores into a row of one's own. -/
theorem own_set13 {w : World} {B e size n g cap p : Nat} {xs : List Value} (h : w.ownsRow B e size (.slice (some ⟨g, 0, none⟩) n cap) n xs) (x : Value) :
    (w.setCell ⟨g, p, none⟩ x).ownsRow B e size (.slice (some ⟨g, 0, none⟩) n cap) n (xs.set p x) := by
  refine ⟨by rw [List.length_set]; exact h.1, ?_⟩
  rcases h.2 with ⟨h0, _⟩ | ⟨g', cap', cur, hv, hb, hg, hc, hm, hs, ht⟩
  · cases h0
  · simp only [Value.slice.injEq, Option.some.injEq, Addr.mk.injEq] at hv
    obtain ⟨⟨rfl, _⟩, _, rfl⟩ := hv
    refine .inr ⟨g, cap, cur.setIfInBounds p x, rfl, hb, ?_, hc, hm, by simpa using hs, ?_⟩
    · simp [World.setCell, Array.getElem?_modify, hg]
    · rw [Array.toList_setIfInBounds, List.take_set, ht]
theorem own_shrink13 {w : World} {B e size n i g cap : Nat} {xs : List Value} (h : w.ownsRow B e size (.slice (some ⟨g, 0, none⟩) n cap) n xs) (hi : i ≤ n) :
    w.ownsRow B e size (.slice (some ⟨g, 0, none⟩) i cap) i (xs.take (i * size)) := by
  have hle : i * size ≤ n * size := Nat.mul_le_mul_right _ hi
  refine ⟨by rw [List.length_take, h.1]; omega, ?_⟩
  rcases h.2 with ⟨h0, _⟩ | ⟨g', cap', cur, hv, hb, hg, hc, hm, hs, ht⟩
  · cases h0
  · simp only [Value.slice.injEq, Option.some.injEq, Addr.mk.injEq] at hv
    obtain ⟨⟨rfl, _⟩, _, rfl⟩ := hv
    refine .inr ⟨g, cap, cur, rfl, hb, hg, Nat.le_trans hi hc, hm, hs, ?_⟩
    rw [← ht, List.take_take, Nat.min_eq_left hle]
theorem own_setCells13 {B e size n g cap : Nat} : ∀ (zs : List Value) (o : Nat) (w : World) (xs : List Value), w.ownsRow B e size (.slice (some ⟨g, 0, none⟩) n cap) n xs → o + zs.length ≤ n * size →
    ∃ ys, (w.setCells g o zs).ownsRow B e size (.slice (some ⟨g, 0, none⟩) n cap) n ys ∧ ys.take o = xs.take o
  | [], o, w, xs, h, _ => ⟨xs, h, rfl⟩
  | z :: zs, o, w, xs, h, hl => by
    simp only [List.length_cons] at hl
    obtain ⟨ys, h1, h2⟩ := own_setCells13 zs (o + 1) (w.setCell ⟨g, o, none⟩ z) (xs.set o z) (own_set13 h z) (by omega)
    refine ⟨ys, h1, ?_⟩
    have h3 := congrArg (List.take o) h2
    rw [List.take_take, List.take_take, Nat.min_eq_left (by omega)] at h3
    rw [h3, List.take_set, List.set_eq_of_length_le (by rw [List.length_take]; omega)]
theorem own_facts13 {w : World} {B e size n g cap : Nat} {xs : List Value} (h : w.ownsRow B e size (.slice (some ⟨g, 0, none⟩) n cap) n xs) :
    B ≤ g ∧ g < w.heap.size ∧ n ≤ cap ∧ cap ≤ maxLen ∧ (∀ p, w.frozen? ⟨g, p, none⟩ = false) ∧ (∀ p, p < n * size → (w.cell? ⟨g, p, none⟩).isSome = true) := by
  rcases h.2 with ⟨h0, _⟩ | ⟨g', cap', cur, hv, hb, hg, hc, hm, hs, ht⟩
  · cases h0
  · simp only [Value.slice.injEq, Option.some.injEq, Addr.mk.injEq] at hv
    obtain ⟨⟨rfl, _⟩, _, rfl⟩ := hv
    refine ⟨hb, (Array.getElem?_eq_some_iff.1 hg).1, hc, hm, fun p => Lib.frozen_of_heap hg p, fun p hp => ?_⟩
    have hle : n * size ≤ cap * size := Nat.mul_le_mul_right _ hc
    rw [Lib.cell_of_heap hg]
    have : p < cur.size := by omega
    simp [this]
theorem grown_set13 {w w1 : World} {g : Nat} (h : w.grownBy w1 (some g)) (p : Nat) (x : Value) : w.grownBy (w1.setCell ⟨g, p, none⟩ x) (some g) := setCells_grownA [x] p w w1 h
theorem grown_below13 {w w1 w2 : World} {g : Nat} (h : w.grownBy w1 (some g)) (hb : Below w1.heap.size w1 w2) : w.grownBy w2 (some g) :=
  ⟨hb.os.trans h.os, hb.tape.trans h.tape, hb.output.trans h.output, Nat.le_trans h.size hb.size, fun k hk hne => (hb.block k (Nat.lt_of_lt_of_le hk h.size)).trans (h.block k hk hne)⟩
/-- clear of a part of a row of texts. -/
theorem run_clearS (w : World) (b o n c : Nat) (hn : 0 < n) (hc : ∀ j, j < n → (w.cell? ⟨b, o + j, none⟩).isSome = true) (hf : ∀ j, j < n → w.frozen? ⟨b, o + j, none⟩ = false) :
    ∃ zs : List Value, zs.length = n ∧ ∀ ty, (Builtin.clear_ #[28] ty #[.slice (some ⟨b, o, none⟩) n c]).run Tryz.prog w = .ok (.tuple #[]) (w.setCells b o zs) := by
  obtain ⟨zs, hzs⟩ : ∃ zs, (Builtin.zeroCells #[.string ⟨#[]⟩] n).toList = zs := ⟨_, rfl⟩
  have hl : zs.length = n := by rw [← hzs]; simp [Builtin.zeroCells]
  have hone : ∀ v ∈ zs, v.oneCell' = true := by
    intro v hv
    rw [← hzs] at hv
    simp only [Builtin.zeroCells, Array.toList_map, Array.toList_range, List.mem_map] at hv
    obtain ⟨i, _, rfl⟩ := hv
    have : i % (#[Value.string ⟨#[]⟩] : Array Value).size = 0 := Nat.mod_one i
    rw [this]
    rfl
  refine ⟨zs, hl, fun ty => ?_⟩
  have hst := run_storeCells_cells (P := Tryz.prog) b o zs 0 w (by simpa [hl] using hc) (by simpa [hl] using hf) hone
  simp only [Nat.add_zero] at hst
  obtain ⟨m, rfl⟩ : ∃ m, n = m + 1 := ⟨n - 1, by omega⟩
  have hv : ∀ w, (zeroValue 9).run Tryz.prog w = .ok (.string ⟨#[]⟩) w := fun w => by kernel_rfl
  have hcells : (Value.string ⟨#[]⟩).cells = #[.string ⟨#[]⟩] := by rfl
  simp [Builtin.clear_, run_underlying Tryz.underlying28, hv, hcells, hzs, hst]

/-! What DeleteFunc keeps. -/
def keepR (s : List UInt8) (L : List (List UInt8)) : List (List UInt8) := L.filter fun x => !sameX x s
theorem keepR_all (s : List UInt8) (L : List (List UInt8)) (h : ∀ j, j < L.length → sameX (L.getD j []) s = false) : keepR s L = L := by
  unfold keepR
  rw [List.filter_eq_self]
  intro x hx
  obtain ⟨j, hj, rfl⟩ := List.getElem_of_mem hx
  have := h j hj
  rw [List.getD_eq_getElem?_getD, List.getElem?_eq_getElem hj] at this
  simpa using this
theorem take_snocR (L : List (List UInt8)) (j : Nat) (h : j < L.length) : L.take (j + 1) = L.take j ++ [L.getD j []] := by
  rw [List.take_succ_eq_append_getElem h, List.getD_eq_getElem?_getD, List.getElem?_eq_getElem h]
  rfl
theorem keepR_snoc (s : List UInt8) (L : List (List UInt8)) (j : Nat) (h : j < L.length) : keepR s (L.take (j + 1)) = keepR s (L.take j) ++ (if sameX (L.getD j []) s = false then [L.getD j []] else []) := by
  rw [take_snocR L j h]
  unfold keepR
  rw [List.filter_append]
  congr 1
  generalize L.getD j [] = x
  cases h : sameX x s <;> simp [h]
theorem first_same (s : List UInt8) (L : List (List UInt8)) : ∃ k, k ≤ L.length ∧ (∀ j, j < k → sameX (L.getD j []) s = false) ∧ (k < L.length → sameX (L.getD k []) s = true) := by
  induction L with
  | nil => exact ⟨0, Nat.le_refl _, fun j hj => by omega, fun h => by simp at h⟩
  | cons x r ih =>
    cases hx : sameX x s with
    | true => exact ⟨0, Nat.zero_le _, fun j hj => by omega, fun _ => hx⟩
    | false =>
      obtain ⟨k, h1, h2, h3⟩ := ih
      refine ⟨k + 1, by rw [List.length_cons]; omega, fun j hj => ?_, fun h => ?_⟩
      · cases j with
        | zero => exact hx
        | succ j => exact h2 j (by omega)
      · exact h3 (by rw [List.length_cons] at h; omega)
/-- The row, in which i of the first j texts are kept. -/
structure KR (s : List UInt8) (L : List (List UInt8)) (i j : Nat) (M : List (List UInt8)) : Prop where
  len : M.length = L.length
  le : j ≤ L.length
  lt : i < j
  low : M.take i = keepR s (L.take j)
  high : ∀ p, j ≤ p → p < L.length → M.getD p [] = L.getD p []
theorem KR.start (s : List UInt8) (L : List (List UInt8)) (k : Nat) (hk : k < L.length) (hj : ∀ j, j < k → sameX (L.getD j []) s = false) (he : sameX (L.getD k []) s = true) : KR s L k (k + 1) L := by
  refine ⟨rfl, hk, Nat.lt_succ_self k, ?_, fun _ _ _ => rfl⟩
  rw [keepR_snoc s L k hk, if_neg (by rw [he]; decide), List.append_nil]
  symm
  refine keepR_all s _ (fun j hj' => ?_)
  rw [List.length_take] at hj'
  have := hj j (by omega)
  rwa [List.getD_eq_getElem?_getD, List.getElem?_take_of_lt (by omega), ← List.getD_eq_getElem?_getD]
theorem KR.skip {s : List UInt8} {L M : List (List UInt8)} {i j : Nat} (h : KR s L i j M) (hj : j < L.length) (he : sameX (L.getD j []) s = true) : KR s L i (j + 1) M := by
  refine ⟨h.len, hj, Nat.lt_succ_of_lt h.lt, ?_, fun p hp hl => h.high p (by omega) hl⟩
  rw [keepR_snoc s L j hj, if_neg (by rw [he]; decide), List.append_nil, h.low]
theorem KR.keep {s : List UInt8} {L M : List (List UInt8)} {i j : Nat} (h : KR s L i j M) (hj : j < L.length) (he : sameX (L.getD j []) s = false) : KR s L (i + 1) (j + 1) (M.set i (L.getD j [])) := by
  have hi := h.lt
  have hil : i < M.length := by rw [h.len]; omega
  refine ⟨by rw [List.length_set, h.len], hj, by omega, ?_, fun p hp hl => ?_⟩
  · rw [keepR_snoc s L j hj, if_pos he, ← h.low]
    have e : (M.set i (L.getD j [])).take (i + 1) = (M.set i (L.getD j [])).take i ++ [(M.set i (L.getD j [])).getD i []] := take_snocR _ i (by rw [List.length_set]; exact hil)
    rw [e, List.take_set, List.set_eq_of_length_le (by rw [List.length_take]; omega)]
    congr 1
    rw [List.getD_eq_getElem?_getD, List.getElem?_set_self hil]
    rfl
  · have := h.high p (by omega) hl
    rw [List.getD_eq_getElem?_getD] at this ⊢
    rw [List.getElem?_set_ne (by omega)]
    exact this

set_option maxHeartbeats 16000000 in
set_option maxRecDepth 100000 in
theorem deleteR_any (B : Nat) (L : List (List UInt8)) (v : Value) (s : List UInt8) (b : Nat) (w : World) (hE : Env w) (hown : NR B v L w) (hL : ∀ x ∈ L, validT x = true ∧ x.length ≤ 9000) (hs : validT s = true) (hsl : s.length ≤ 9000) (hb : b < w.heap.size) (hbc : w.cell? ⟨b, 0, none⟩ = some (.string (S s)))
    (hne : v.ownBlock ≠ some b) (hz : L.length ≤ 100000) (henv : ∀ (W : World), w.grownBy W v.ownBlock → Env W) :
    Calls Tryz.prog 48 #[v, .func (.func 49) #[] #[.pointer (some ⟨b, 0, none⟩)]] w fun e w' => ∃ v', e = .returned v' ∧ NR B v' (keepR s L) w' ∧ w.grownBy w' v.ownBlock ∧ v'.ownBlock = v.ownBlock := by
  obtain ⟨k, hk, hj, he⟩ := first_same s L
  have cI := Lib.hid (indexR_any L v w hE hown.bl hL s hs hsl b hb hbc k hk hj he)
  rcases Nat.lt_or_ge k L.length with hlt | hge
  · have cI := Lib.hid (cI.out (k : Int) (if_pos hlt))
    have HKR := Lib.hid (KR.start s L k hlt hj (he hlt))
    obtain ⟨g, cap, rfl⟩ : ∃ g cap, v = .slice (some ⟨g, 0, none⟩) L.length cap := by
      rcases hown.2 with ⟨_, h0⟩ | ⟨g, cap, cur, hv, _⟩
      · omega
      · exact ⟨g, cap, hv⟩
    have hgb : g ≠ b := fun e => hne (by rw [← e]; rfl)
    obtain ⟨hBg, hg, hnc, hcm, _, _⟩ := own_facts13 hown
    unfold maxLen at hcm
    have HOwn := Lib.hid hown
    have HG0 : RowKit.Hid (w.grownBy w (some g)) := World.grownBy.refl w _
    have cF := Lib.hid (fun (x : List UInt8) (hx : x ∈ L) (W : World) (hw : w.grownBy W (some g)) (r : Bool) (hr : sameX x s = r) => renf_any s x b W (henv W hw) (Nat.lt_of_lt_of_le hb hw.size) (by
      have e1 : W.heap[b]? = w.heap[b]? := hw.block b hb (fun e => hgb (Option.some.inj e).symm)
      rw [← hbc]
      unfold World.cell?
      simp only [e1]) hs hsl (hL x hx).1 (hL x hx).2 r hr)
    obtain ⟨n, hn⟩ : ∃ n, L.length = n := ⟨_, rfl⟩
    have HN := Lib.hid hn
    unfold NR at HOwn
    rw [hn] at hlt hk hz hnc cI HOwn ⊢
    have t1 : ((k : Int) == -1) = false := beq_eq_false_iff_ne.2 (by omega)
    clear hown hE hj he hn hne hL hs hsl hbc henv hb hk
    go_enter Tryz.func48, Tryz.ntmps48
    go_wp2_with fail
    refine cI.out.mono ?_
    rintro e w1 ⟨rfl, h1⟩
    have HOwn1 := Lib.hid (own_after HOwn.out h1)
    have HG1 := Lib.hid (grown_below13 HG0.out h1)
    clear HOwn cI h1 HG0
    go_wp2
    go_loopw [5, 6, 7] (fun s5 s6 _ wr => ∃ (i j : Nat) (M : List (List UInt8)), s5 = .int .i64 (i : Int) ∧ s6 = .int .i64 (j : Int) ∧ RowKit.Hid (KR s L i j M) ∧ RowKit.Hid (wr.ownsRow B 9 1 (.slice (some ⟨g, 0, none⟩) n cap) n (M.map strB)) ∧ RowKit.Hid (w.grownBy wr (some g))) (fun _ s6 _ _ => n - (intOf s6).toNat)
    case atStart => exact ⟨k, k + 1, L, rfl, by go_num, HKR.out, HOwn1.out, HG1.out⟩
    case round =>
      obtain ⟨i, j, M, rfl, rfl, HK, HO, HG⟩ := hrel
      have hlen := HK.out.len
      have hij := HK.out.lt
      have hjn := HK.out.le
      rw [HN.out] at hlen hjn
      by_cases hlt2 : j < n
      · have hcj : (M.map strB)[j]? = some (.string (S (L.getD j []))) := by
          rw [List.getElem?_map, ← HK.out.high j (Nat.le_refl _) (by rw [HN.out]; exact hlt2), List.getD_eq_getElem?_getD, List.getElem?_eq_getElem (by omega)]
          rfl
        have e1 := HO.out.cells (g := g) rfl _ _ hcj
        rw [add13, Nat.zero_add] at e1
        have i1 : (0 : Int) ≤ (j : Int) := by omega
        have i2 : (j : Int) < (n : Int) := by omega
        have i3 : (0 : Int) ≤ (i : Int) := by omega
        have i4 : (i : Int) < (n : Int) := by omega
        have hmem : L.getD j [] ∈ L := by
          rw [List.getD_eq_getElem?_getD, List.getElem?_eq_getElem (by rw [HN.out]; exact hlt2)]
          exact List.getElem_mem _
        have HSkip := Lib.hid (fun h => HK.out.skip (by rw [HN.out]; exact hlt2) h)
        have HKeep := Lib.hid (fun h => HK.out.keep (by rw [HN.out]; exact hlt2) h)
        have cC := Lib.hid (fun r hr => cF.out (L.getD j []) hmem wr HG.out r hr)
        obtain ⟨x, hx⟩ : ∃ z, L.getD j [] = z := ⟨_, rfl⟩
        rw [hx] at e1 HSkip HKeep cC
        clear hx hmem hcj HK
        cases hc : sameX x s with
        | true =>
          have cC := Lib.hid (cC.out true hc)
          have HS := Lib.hid (HSkip.out hc)
          clear hc HSkip HKeep
          generalize S x = y at *
          go_wp2_with fail
          refine cC.out.mono ?_
          rintro e w5 ⟨rfl, h5⟩
          have HO5 := Lib.hid (own_after HO.out h5)
          have HG5 := Lib.hid (grown_below13 HG.out h5)
          clear h5 HO HG e1
          go_wp2
          go_roundw
          case rel => exact ⟨i, j + 1, M, rfl, by go_num, HS.out, HO5.out, HG5.out⟩
          case measure => simp [intOf]; omega
        | false =>
          have cC := Lib.hid (cC.out false hc)
          have HKK := Lib.hid (HKeep.out hc)
          clear hc HSkip HKeep
          have HSet : RowKit.Hid ((M.map strB).set i (.string (S x)) = (M.set i x).map strB) := by unfold RowKit.Hid; rw [List.map_set]; rfl
          generalize S x = y at *
          go_wp2_with fail
          refine cC.out.mono ?_
          rintro e w5 ⟨rfl, h5⟩
          have ho5 := own_after HO.out h5
          have hg5 := grown_below13 HG.out h5
          obtain ⟨_, _, _, _, hfz, hsome⟩ := own_facts13 ho5
          have f1 := hfz i
          obtain ⟨z1, hz1⟩ := Option.isSome_iff_exists.1 (hsome i (by omega))
          have hnew := own_set13 ho5 (p := i) (.string y)
          rw [HSet.out] at hnew
          have Hnew := Lib.hid hnew
          have HG6 := Lib.hid (grown_set13 hg5 i (.string y))
          clear h5 ho5 hg5 hnew hfz hsome HO HG e1
          go_wp2
          go_roundw
          case rel => exact ⟨i + 1, j + 1, M.set i x, by go_num, by go_num, HKK.out, Hnew.out, HG6.out⟩
          case measure => simp [intOf]; omega
      · obtain rfl : j = n := by omega
        obtain ⟨_, _, _, _, hfz, hsome⟩ := own_facts13 HO.out
        have hfull : M.take i = keepR s L := by
          rw [HK.out.low, ← HN.out, List.take_length]
        have hil : (keepR s L).length = i := by rw [← hfull, List.length_take]; omega
        obtain ⟨zs, hzl, hrun⟩ := run_clearS wr g i (j - i) (cap - i) (by omega) (fun p hp => hsome _ (by omega)) (fun p _ => hfz _)
        obtain ⟨ys, hy1, hy2⟩ := own_setCells13 zs i wr (M.map strB) HO.out (by omega)
        have hfin := own_shrink13 (i := i) hy1 (by omega)
        rw [Nat.mul_one, hy2, ← List.map_take, hfull] at hfin
        have Hfin := Lib.hid hfin
        have HG6 := Lib.hid (setCells_grownA zs i w wr HG.out)
        have HIL := Lib.hid hil
        have hci : ¬ cap = i := by omega
        have i3 : (0 : Int) ≤ (i : Int) := by omega
        have i4 : (i : Int) ≤ (j : Int) := by omega
        have i5 : (i : Int) ≤ (cap : Int) := by omega
        clear HO HK hfz hsome hfin hy1 hy2 HG hfull hil
        go_wp2
        go_ret
        refine ⟨_, rfl, ?_, HG6.out, rfl⟩
        unfold NR
        rw [HIL.out]
        exact Hfin.out
  · have hall : ∀ j, j < L.length → sameX (L.getD j []) s = false := fun j hj' => hj j (by omega)
    have cI := Lib.hid (cI.out (-1) (if_neg (by omega)))
    rw [keepR_all s L hall]
    have HOwn := Lib.hid hown
    have HG0 : RowKit.Hid (w.grownBy w v.ownBlock) := World.grownBy.refl w _
    obtain ⟨ao, cp, rfl, -, -⟩ := own_form13 hown
    clear hown hE hall hbc hne hL hs hsl hb henv hj he
    generalize L.length = n at *
    go_enter Tryz.func48, Tryz.ntmps48
    go_wp2_with fail
    refine cI.out.mono ?_
    rintro e w1 ⟨rfl, h1⟩
    have HOwn1 := Lib.hid (HOwn.out.after h1)
    have HG1 := Lib.hid (below_grown h1 (Value.ownBlock (.slice ao n cp)))
    clear h1 HOwn
    go_wp2
    go_ret
    exact ⟨_, rfl, HOwn1.out, HG1.out, rfl⟩
end

section
open Go.RowKit Go.PlainAid
theorem texts_ext (A B : List (List UInt8)) (hl : A.length = B.length) (h : ∀ i, i < A.length → A.getD i [] = B.getD i []) : A = B := by
  refine List.ext_getElem hl fun i h1 h2 => ?_
  have := h i h1
  rwa [List.getD_eq_getElem?_getD, List.getD_eq_getElem?_getD, List.getElem?_eq_getElem h1, List.getElem?_eq_getElem h2] at this

set_option maxHeartbeats 8000000 in
theorem refTexts_any (A B : List (List UInt8)) (va vb : Value) (w : World) (hA : BL va A w) (hB : BL vb B w) (b : Bool) (hb : decide (A = B) = b) :
    Calls Tryz.prog 26 #[va, vb] w fun e w' => e = .returned (.bool b) ∧ Below w.heap.size w w' := by
  obtain ⟨a, ca, rfl, hca, hma, _, hcA⟩ := hA
  obtain ⟨b', cb, rfl, hcb, hmb, _, hcB⟩ := hB
  unfold maxLen at hma hmb
  have HCA := Lib.hid hcA
  have HCB := Lib.hid hcB
  have HE := Lib.hid (fun h : A = B => congrArg List.length h)
  have HX := Lib.hid (texts_ext A B)
  have HBB := Lib.hid hb
  clear hb
  obtain ⟨n, hn⟩ : ∃ n, A.length = n := ⟨_, rfl⟩
  obtain ⟨m, hm⟩ : ∃ m, B.length = m := ⟨_, rfl⟩
  have HN := Lib.hid hn
  have HM := Lib.hid hm
  rw [hn] at hca ⊢
  rw [hm] at hcb ⊢
  clear hcA hcB hn hm
  by_cases hnm : n = m
  · subst hnm
    have t0 : ((n : Int) != (n : Int)) = false := by simp
    go_enter Tryz.func26, Tryz.ntmps26
    go_wp2
    go_loopw [5] (fun i wr => ∃ k : Nat, k ≤ n ∧ i = .int .i64 (k : Int) ∧ RowKit.Hid (∀ j, j < k → A.getD j [] = B.getD j []) ∧ Below w.heap.size w wr) (fun i _ => n - (intOf i).toNat)
    case atStart => exact ⟨0, Nat.zero_le _, rfl, (fun j hj => by omega), Below.refl _ _⟩
    case round =>
      obtain ⟨k, hk, rfl, HJ, hbw⟩ := hrel
      by_cases hkn : k < n
      · obtain ⟨ga, oa, rfl, hga, c1⟩ := HCA.out k (by rw [HN.out]; exact hkn)
        obtain ⟨gb, ob, rfl, hgb, c2⟩ := HCB.out k (by rw [HM.out]; exact hkn)
        have c1 : wr.cell? ⟨ga, oa + k, none⟩ = some (.string (S (A.getD k []))) := (hbw.cell (p := ⟨ga, oa + k, none⟩) hga).trans c1
        have c2 : wr.cell? ⟨gb, ob + k, none⟩ = some (.string (S (B.getD k []))) := (hbw.cell (p := ⟨gb, ob + k, none⟩) hgb).trans c2
        have i1 : (0 : Int) ≤ (k : Int) := by omega
        have i2 : (k : Int) < (n : Int) := by omega
        have hq := S_eq12 (A.getD k []) (B.getD k [])
        by_cases he : A.getD k [] = B.getD k []
        · rw [decide_eq_true he] at hq
          have HJ2 : RowKit.Hid (∀ j, j < k + 1 → A.getD j [] = B.getD j []) := by
            intro j hj
            rcases Nat.lt_or_ge j k with h | h
            · exact HJ.out j h
            · rw [show j = k by omega]; exact he
          clear he HJ
          generalize S (A.getD k []) = x at *
          generalize S (B.getD k []) = y at *
          go_wp2
          go_region
          all_goals
            go_wp2
            go_roundw
            case rel => exact ⟨k + 1, by omega, by go_num, HJ2, hbw.drew⟩
            case measure => simp [intOf]; omega
        · rw [decide_eq_false he] at hq
          obtain rfl : b = false := by rw [← HBB.out]; exact decide_eq_false (fun h => he (by rw [h]))
          clear he HJ
          generalize S (A.getD k []) = x at *
          generalize S (B.getD k []) = y at *
          go_wp2
          go_region
          all_goals
            go_wp2
            go_ret
            exact ⟨rfl, hbw.drew⟩
      · obtain rfl : k = n := by omega
        have hab : A = B := HX.out (by rw [HN.out, HM.out]) (fun j hj => HJ.out j (by rw [HN.out] at hj; exact hj))
        obtain rfl : b = true := by rw [← HBB.out]; exact decide_eq_true hab
        clear hab
        go_wp2
        go_ret
        exact ⟨rfl, hbw⟩
  · have t0 : ((n : Int) != (m : Int)) = true := by simp; omega
    obtain rfl : b = false := by rw [← HBB.out]; exact decide_eq_false (fun h => hnm (by have := HE.out h; rw [HN.out, HM.out] at this; exact this))
    go_enter Tryz.func26, Tryz.ntmps26
    go_wp2
    go_ret
    exact ⟨rfl, Below.refl _ _⟩
end

end Go.Proofs.YtmcolapcmjdoeaaGreatDoor
