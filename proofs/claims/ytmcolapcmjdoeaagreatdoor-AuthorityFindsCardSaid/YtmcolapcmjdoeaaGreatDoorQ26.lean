/- Merged: R13F. -/
import Derived.Test.YtmcolapcmjdoeaaGreatDoorQ23
import Derived.Test.YtmcolapcmjdoeaaGreatDoorQ18
import Derived.Test.YtmcolapcmjdoeaaGreatDoorQ19
namespace Go.Proofs.YtmcolapcmjdoeaaGreatDoor

section
open Go.RowKit Go.PlainAid
def SP.bl13 (L : List (List UInt8)) : SP := ⟨fun v w => BL v L w, fun _ _ _ h hb => h.after hb⟩
/-! libraryref01.Join, as libraryref12.Glue. -/
set_option maxHeartbeats 8000000 in
theorem refJoinG_any (sep : List UInt8) (L : List (List UInt8)) (v : Value) (w : World) (hv : BL v L w) (hs : sep.length ≤ 100) (m : Nat) (hm : m ≤ 1000000) (hL : ∀ x ∈ L, x.length ≤ m) (hn : L.length ≤ 1000000) :
    Calls Tryz.prog 60 #[v, .string (S sep)] w fun e w' => e = .returned (.string (S (gluX sep L))) ∧ w' = w := by
  obtain ⟨res, hres⟩ : ∃ r, gluX sep L = r := ⟨_, rfl⟩
  have HRes := Lib.hid hres
  rw [hres]
  have HV := Lib.hid hv
  obtain ⟨a, cap, rfl, -, -⟩ := hv.length
  obtain ⟨n, hn2⟩ : ∃ n, L.length = n := ⟨_, rfl⟩
  rw [hn2] at HV hn ⊢
  have HN := Lib.hid hn2
  have HSt := Lib.hid (fun k (h : k < n) => glu_take sep L k (by rw [hn2]; exact h))
  have HLe := Lib.hid (fun k => glu_le sep m hs (L.take k) (fun x hx => hL x (List.mem_of_mem_take hx)))
  have HLx := Lib.hid (fun k (h : k < n) => (show (L.getD k []).length ≤ m by
    rw [List.getD_eq_getElem?_getD, List.getElem?_eq_getElem (by rw [hn2]; exact h)]
    exact hL _ (List.getElem_mem _)))
  have hss := S_size sep
  have HAp := Lib.hid S_append
  obtain ⟨sl, hsl⟩ : ∃ n, sep.length = n := ⟨_, rfl⟩
  rw [hsl] at hs hss
  clear hv hn2 hres hL hsl
  obtain ⟨ss, hse⟩ : ∃ x, S sep = x := ⟨_, rfl⟩
  have HSe := Lib.hid hse
  rw [hse] at hss ⊢
  clear hse
  go_enter Tryz.func60, Tryz.ntmps60
  go_wp2
  go_loopw [5, 6] (fun v5 v6 wr => ∃ k : Nat, v5 = .string (S (gluX sep (L.take k))) ∧ v6 = .int .i64 (k : Int) ∧ k ≤ n ∧ w = wr) (fun _ v6 _ => n - (intOf v6).toNat)
  case atStart => exact ⟨0, by rw [List.take_zero]; rfl, rfl, by omega, rfl⟩
  case round =>
    obtain ⟨k, rfl, rfl, hk, rfl⟩ := hrel
    by_cases hkn : k < n
    · have i1 : (0 : Int) ≤ (k : Int) := by omega
      have i2 : (k : Int) < (n : Int) := by omega
      obtain ⟨g, o, he, hg, hcell⟩ : ∃ g o, a = some ⟨g, o, none⟩ ∧ g < w.heap.size ∧ w.cell? ⟨g, o + k, none⟩ = some (strB (L.getD k [])) := by
        obtain ⟨a', cap', he, _, _, _, hx⟩ := HV.out
        obtain ⟨rfl, -, rfl⟩ := Value.slice.inj he
        obtain ⟨g, o, e1, e2, e3⟩ := hx k (by rw [HN.out]; exact hkn)
        exact ⟨g, o, e1, e2, e3⟩
      subst he
      unfold strB at hcell
      have hle := HLe.out k
      have hlx := HLx.out k hkn
      have hst := HSt.out k hkn
      have hlt : (L.take k).length = k := by rw [List.length_take, HN.out]; omega
      rw [hlt] at hle
      have hbound : (m + 100) * k ≤ 1000100 * 1000000 := Nat.mul_le_mul (by omega) (by omega)
      obtain ⟨G, hG⟩ : ∃ G, gluX sep (L.take k) = G := ⟨_, rfl⟩
      obtain ⟨y, hy⟩ : ∃ y, L.getD k [] = y := ⟨_, rfl⟩
      rw [hG] at hle hst ⊢
      rw [hy] at hcell hlx hst
      have hz1 := S_size G
      have hz2 := S_size y
      by_cases hk0 : k = 0
      · rw [if_pos hk0] at hst
        have HR2 : RowKit.Hid (Value.string (S G ++ S y) = .string (S (gluX sep (L.take (k + 1))))) := by
          unfold RowKit.Hid
          rw [hst, HAp.out]
        have t1 : decide ((0 : Int) < (k : Int)) = false := decide_eq_false (by omega)
        have t1n : decide (0 < k) = false := decide_eq_false (by omega)
        have b1 : ¬ 9223372036854775807 < (S G).size + (S y).size := by rw [hz1, hz2]; omega
        clear hG hy hst hlt hk0
        generalize S G = sg at *
        generalize S y = sy at *
        go_wp2
        go_roundw
        case rel => exact ⟨k + 1, HR2.out, by go_num, by omega, by first | rfl | trivial⟩
        case measure => simp [intOf]; omega
      · rw [if_neg hk0] at hst
        have HR2 : RowKit.Hid (Value.string (S G ++ ss ++ S y) = .string (S (gluX sep (L.take (k + 1))))) := by
          unfold RowKit.Hid
          rw [hst, ← HSe.out, HAp.out, HAp.out]
        have t1 : decide ((0 : Int) < (k : Int)) = true := decide_eq_true (by omega)
        have t1n : decide (0 < k) = true := decide_eq_true (by omega)
        have b1 : ¬ 9223372036854775807 < (S G).size + sl := by rw [hz1]; omega
        have b2 : ¬ 9223372036854775807 < (S G).size + sl + (S y).size := by rw [hz1, hz2]; omega
        clear hG hy hst hlt
        generalize S G = sg at *
        generalize S y = sy at *
        go_wp2
        go_roundw
        case rel => exact ⟨k + 1, HR2.out, by go_num, by omega, by first | rfl | trivial⟩
        case measure => simp [intOf]; omega
    · obtain rfl : k = n := by omega
      have hfin : L.take k = L := by rw [← HN.out, List.take_length]
      rw [hfin, HRes.out]
      go_wp2
      first | exact ⟨rfl, rfl⟩ | (go_ret; exact ⟨rfl, rfl⟩)
theorem parts_max13 (l : List UInt8) (h : validT l = true) : ∀ x ∈ partsX l, x.length ≤ 8 * l.length := by
  intro x hx
  obtain ⟨c1, _, rfl, h3⟩ := parts_len l h x hx
  have := enc_le c1
  omega
theorem firstI_at (L : List Int) (k : Nat) (hk : k < L.length) (h : ∀ j, j < k → L.getD j 0 = 0) (h0 : L.getD k 0 ≠ 0) : firstI L = L.getD k 0 := by
  unfold firstI
  have e : L.find? (fun e => e != 0) = some (L.getD k 0) := by
    rw [List.find?_eq_some_iff_getElem]
    refine ⟨by simpa using h0, k, hk, by simp [List.getD_eq_getElem?_getD, List.getElem?_eq_getElem hk], fun j hj => ?_⟩
    have := h j hj
    rw [List.getD_eq_getElem?_getD, List.getElem?_eq_getElem (by omega)] at this
    simpa using this
  rw [e]
  rfl
theorem firstI_zero (L : List Int) (h : ∀ j, j < L.length → L.getD j 0 = 0) : firstI L = 0 := by
  unfold firstI
  have e : L.find? (fun e => e != 0) = none := by
    rw [List.find?_eq_none]
    intro x hx
    obtain ⟨j, hj, rfl⟩ := List.mem_iff_getElem.1 hx
    have := h j hj
    rw [List.getD_eq_getElem?_getD, List.getElem?_eq_getElem hj] at this
    simpa using this
  rw [e]
  rfl
theorem map_getD (f : List UInt8 → Int) (L : List (List UInt8)) (j : Nat) (h : j < L.length) : (L.map f).getD j 0 = f (L.getD j []) := by
  simp [List.getD_eq_getElem?_getD, List.getElem?_eq_getElem h]
/-- Is a heading no text of its form? -/
def badH (kind : Int) (x : List UInt8) : Bool := !validT x || (!decide (cleanX x = x) || (decide (normX x = []) || (decide (kind = 3) && !decide (gluX dd (partsX x) = x))))
theorem hdE_eq (kind : Int) (x : List UInt8) : hdE kind x = if badH kind x = true then 3 else if 200 < x.length ∨ 4 < (partsX x).length then 4 else 0 := by
  unfold hdE
  have e : (validT x = false ∨ cleanX x ≠ x ∨ normX x = [] ∨ (kind = 3 ∧ gluX dd (partsX x) ≠ x)) ↔ badH kind x = true := by
    unfold badH
    simp [Bool.or_eq_true, Bool.and_eq_true]
  by_cases h : badH kind x = true
  · rw [if_pos (e.2 h), if_pos h]
  · rw [if_neg (fun g => h (e.1 g)), if_neg h]
theorem shapeI_kind (a : Au) (h : a.kind < 1 ∨ 4 < a.kind) : shapeI a = 1 := by
  unfold shapeI
  rw [if_pos h]
theorem shapeI_hd (a : Au) (h : ¬ (a.kind < 1 ∨ 4 < a.kind)) (k : Nat) (hk : k < (hdsX a).length) (hj : ∀ j, j < k → hdE a.kind ((hdsX a).getD j []) = 0) (h0 : hdE a.kind ((hdsX a).getD k []) ≠ 0) : shapeI a = hdE a.kind ((hdsX a).getD k []) := by
  have e := firstI_at ((hdsX a).map (hdE a.kind)) k (by rw [List.length_map]; exact hk) (fun j hj2 => by rw [map_getD _ _ j (by omega)]; exact hj j hj2) (by rw [map_getD _ _ k hk]; exact h0)
  rw [map_getD _ _ k hk] at e
  unfold shapeI
  rw [if_neg h, e, if_pos h0]
theorem shapeI_end (a : Au) (h : ¬ (a.kind < 1 ∨ 4 < a.kind)) (hj : ∀ j, j < (hdsX a).length → hdE a.kind ((hdsX a).getD j []) = 0) : shapeI a = if 8 < a.see.length then 13 else 0 := by
  have e := firstI_zero ((hdsX a).map (hdE a.kind)) (fun j hj2 => by
    rw [List.length_map] at hj2
    rw [map_getD _ _ j hj2]; exact hj j hj2)
  unfold shapeI
  rw [if_neg h, e, if_neg (fun g => g rfl)]
set_option maxHeartbeats 16000000 in
set_option maxRecDepth 100000 in
theorem refShape_any (a : Au) (s t : Value) (w : World) (h : AN a s t w) (hz : a.see.length ≤ 1000) (hx : ∀ x ∈ hdsX a, x.length ≤ 1000) (r : Int) (hr : shapeI a = r) :
    Calls Tryz.prog 30 #[AV a s t] w fun e w' => e = .returned (.int .i64 r) ∧ Below w.heap.size w w' := by
  obtain ⟨Q, hQ⟩ : ∃ Q, (fun (e : Ending) (w' : World) => e = .returned (.int .i64 r) ∧ Below w.heap.size w w') = Q := ⟨_, rfl⟩
  rw [hQ]
  obtain ⟨W0, hW0⟩ : ∃ W, w.alloc (.cells #[.int .i64 a.id, .int .i64 a.kind, .string (S a.heading), s, t] 31) = W := ⟨_, rfl⟩
  have b0 : Below w.heap.size w W0 := by rw [← hW0]; exact (Below.refl _ _).alloc (Nat.le_refl _) _
  have hR0 : W0.heap[w.heap.size]? = some (.cells #[.int .i64 a.id, .int .i64 a.kind, .string (S a.heading), s, t] 31 (0, 0)) := by rw [← hW0]; exact heap_alloc_new w _
  have hlt0 : w.heap.size < W0.heap.size := by rw [← hW0]; simp
  have HQ : RowKit.Hid (∀ z : Int, shapeI a = z → ∀ W, Below W0.heap.size W0 W → Q (.returned (.int .i64 z)) W) := by
    intro z hz W hW
    rw [← hQ]
    exact ⟨by rw [← hr, hz], b0.trans (hW.mono b0.size)⟩
  have HBox := Lib.hid (fun (W : World) (h : Below W0.heap.size W0 W) => acells ((h.block w.heap.size hlt0).trans hR0))
  have cH := Lib.hid (fun (W : World) (hb : Below W0.heap.size W0 W) => refHeadings_any a s t W (h.after (b0.trans (hb.mono b0.size))) (by omega))
  have HX := Lib.hid hx
  have HKd := Lib.hid (shapeI_kind a)
  have HHd := Lib.hid (fun h => shapeI_hd a h)
  have HEnd := Lib.hid (fun h => shapeI_end a h)
  have HW0 := Lib.hid hW0
  obtain ⟨sa, sc, hs, hc1, hc2⟩ := h.1.length
  subst hs
  obtain ⟨ta, tc, ht, htc⟩ := h.2.length
  subst ht
  obtain ⟨ns, hns⟩ : ∃ n, a.see.length = n := ⟨_, rfl⟩
  rw [hns] at cH HBox HEnd HW0 hz ⊢
  obtain ⟨nt, hnt⟩ : ∃ n, a.above.length = n := ⟨_, rfl⟩
  rw [hnt] at cH HBox HW0 ⊢
  have hhl : (hdsX a).length = ns + 1 := by unfold hdsX; rw [List.length_cons, hns]
  unfold AV at cH ⊢
  obtain ⟨kd, hkd⟩ : ∃ k, a.kind = k := ⟨_, rfl⟩
  rw [hkd] at cH HBox HW0 HKd HHd HEnd ⊢
  obtain ⟨⟨x0, x1, x2, x3, x4⟩, -⟩ := HBox.out W0 (Below.refl _ _)
  clear hQ hr hW0 hR0 b0 hlt0 h hx hkd hns hnt htc hc1 hc2
  go_enter Tryz.func30, Tryz.ntmps30
  go_upto_region 1 with fail
  rw [HW0.out]
  clear HW0
  by_cases hk1 : kd < 1
  · have t1 : decide (kd < 1) = true := decide_eq_true hk1
    have hno := HQ.out 1 (HKd.out (.inl hk1)) W0 (Below.refl _ _)
    clear hk1
    go_wp2
    first | exact hno | (go_ret; exact hno)
  have t1 : decide (kd < 1) = false := decide_eq_false hk1
  by_cases hk4 : 4 < kd
  · have t4 : decide (4 < kd) = true := decide_eq_true hk4
    have hno := HQ.out 1 (HKd.out (.inr hk4)) W0 (Below.refl _ _)
    clear hk1 hk4
    go_wp2
    first | exact hno | (go_ret; exact hno)
  have t4 : decide (4 < kd) = false := decide_eq_false hk4
  have hkk : ¬ (kd < 1 ∨ 4 < kd) := fun g => g.elim hk1 hk4
  have HHd2 := Lib.hid (HHd.out hkk)
  have HEnd2 := Lib.hid (HEnd.out hkk)
  have cH0 := Lib.hid (cH.out W0 (Below.refl _ _))
  clear hkk hk1 hk4 HHd HEnd HKd cH
  go_wp2_with fail
  refine cH0.out.mono ?_
  rintro e w1 ⟨v, rfl, hr1, hb1⟩
  obtain ⟨gp, cpp, rfl⟩ := sr_form hr1
  have HP := Lib.hid hr1.bl
  have HB1 := Lib.hid hb1
  obtain ⟨n, hn⟩ : ∃ n, (hdsX a).length = n := ⟨_, rfl⟩
  have HN := Lib.hid hn
  have hn9 : n ≤ 1001 := by omega
  rw [hn] at HEnd2 HHd2 ⊢
  rw [hn] at HP
  clear hr1 hb1 cH0 hn hhl x0 x1 x2 x3 x4 t1 t4
  go_wp2
  go_loopw [4] (fun i wr => ∃ k : Nat, i = .int .i64 (k : Int) ∧ k ≤ n ∧ RowKit.Hid (∀ j, j < k → hdE kd ((hdsX a).getD j []) = 0) ∧ RowKit.Hid (Below w1.heap.size w1 wr)) (fun i _ => n - (intOf i).toNat)
  case atStart => exact ⟨0, rfl, Nat.zero_le _, (fun j hj => by omega), Below.refl _ _⟩
  case round =>
    obtain ⟨k, rfl, hk, HJ, HB⟩ := hrel
    have BW := Lib.hid (HB1.out.trans (HB.out.mono HB1.out.size))
    by_cases hkn : k < n
    · have i1 : (0 : Int) ≤ (k : Int) := by omega
      have i2 : (k : Int) < (n : Int) := by omega
      have hmem := mem_getD12 (hdsX a) k (by rw [HN.out]; exact hkn)
      have hxl := HX.out _ hmem
      have HCell : RowKit.Hid (∀ W, Below wr.heap.size wr W → W.cell? ⟨gp, k, none⟩ = some (.string (S ((hdsX a).getD k [])))) := by
        intro W hW
        obtain ⟨g2, o2, cap2, he, hg, c0⟩ := ((HP.out.after HB.out).after hW).at12 k (by rw [HN.out]; exact hkn)
        obtain ⟨ha, -, hcp⟩ := Value.slice.inj he
        obtain ⟨rfl, rfl, -⟩ := Addr.mk.inj (Option.some.inj ha)
        rw [Nat.zero_add] at c0
        exact c0
      have HBk : RowKit.Hid (∀ W, Below wr.heap.size wr W → W.cell? ⟨w.heap.size, 1, none⟩ = some (.int .i64 kd)) := fun W hW => (HBox.out W (BW.out.trans (hW.mono BW.out.size))).1.2.1
      have HHd3 := Lib.hid (fun h0 => HHd2.out k hkn HJ.out h0)
      have HJ2 : RowKit.Hid (hdE kd ((hdsX a).getD k []) = 0 → ∀ j, j < k + 1 → hdE kd ((hdsX a).getD j []) = 0) := by
        intro h0 j hj
        rcases Nat.lt_or_ge j k with h | h
        · exact HJ.out j h
        · rw [show j = k by omega]; exact h0
      obtain ⟨x, hx⟩ : ∃ x, (hdsX a).getD k [] = x := ⟨_, rfl⟩
      rw [hx] at HCell HHd3 HJ2 hxl
      have hE := hdE_eq kd x
      obtain ⟨res, hres⟩ : ∃ b, badH kd x = b := ⟨_, rfl⟩
      rw [hres] at hE
      have HE := Lib.hid hE
      have HVal : RowKit.Hid (res = false → validT x = true) := by
        intro h
        rw [h] at hres
        unfold badH at hres
        cases hv : validT x with
        | true => rfl
        | false => rw [hv] at hres; cases hres
      obtain ⟨vb, hvb⟩ : ∃ b, validT x = b := ⟨_, rfl⟩
      have cV := Lib.hid (fun W => (show Calls Tryz.prog 7 #[.string (S x)] W fun e w' => e = .returned (.bool vb) ∧ Below W.heap.size W w' by
        have h := refValid_any (S x) (by rw [S_size]; omega) W
        rw [S_list, hvb] at h
        exact h))
      have cC := Lib.hid (fun (h : vb = true) W => refCleanS_any x (by
        obtain ⟨c1, h1, h2⟩ := validT_text x (hvb.trans h)
        exact ⟨c1, h1, h2⟩) (by omega) W)
      have cN := Lib.hid (fun (h : vb = true) W => refNorm_any x (hvb.trans h) (by omega) W)
      have cP := Lib.hid (fun (h : vb = true) W => refParts_any x (hvb.trans h) (by omega) W)
      have hpm := fun (h : vb = true) => parts_max13 x (hvb.trans h)
      have hpn : vb = true → (partsX x).length ≤ 100000 := fun h => by
        have h1 := nonE_le ((splG dd x).map cleanX)
        have h2 := spl_len dd x.length x (Nat.le_refl _)
        unfold partsX
        rw [List.length_map] at h1
        omega
      have cJ := Lib.hid (fun (h : vb = true) v W (hb : BL v (partsX x) W) => refJoinG_any dd (partsX x) v W hb (by decide) 100000 (by decide) (fun y hy => Nat.le_trans (hpm h y hy) (by omega)) (Nat.le_trans (hpn h) (by decide)))
      have edd : S dd = ⟨#[45, 45]⟩ := rfl
      rw [edd] at cJ
      have hq := S_eq12 (cleanX x) x
      have hq2 := S_eq12 (gluX dd (partsX x)) x
      have hsn := S_facts (normX x)
      obtain ⟨PX, hPX⟩ : ∃ L, partsX x = L := ⟨_, rfl⟩
      have hbad : (!vb || (!decide (cleanX x = x) || (decide (normX x = []) || (decide (kd = 3) && !decide (gluX dd PX = x))))) = res := by rw [← hvb, ← hPX]; exact hres
      rw [hPX] at cP cJ hq2 HE
      have HPl : RowKit.Hid (vb = true → PX.length ≤ 100000) := by
        intro h
        rw [← hPX]
        exact hpn h
      obtain ⟨y, hy⟩ : ∃ y, cleanX x = y := ⟨_, rfl⟩
      rw [hy] at cC hq hbad
      obtain ⟨z, hz2⟩ : ∃ z, normX x = z := ⟨_, rfl⟩
      rw [hz2] at cN hsn hbad
      obtain ⟨jx, hjx⟩ : ∃ z, gluX dd PX = z := ⟨_, rfl⟩
      rw [hjx] at cJ hq2 hbad
      have HBad := Lib.hid hbad
      have hxs := S_size x
      have HV2 : RowKit.Hid (res = false → vb = true) := fun h => by rw [← hvb]; exact HVal.out h
      obtain ⟨lx, hlx⟩ : ∃ n, x.length = n := ⟨_, rfl⟩
      rw [hlx] at hxl hxs HE
      clear hmem hx hres hE HVal edd hPX hy hz2 hjx hbad hpm hpn hvb hlx
      go_upto_region 7 with fail
      go_cut [64] from 21 to 64 (fun r wx => r = .bool res ∧ Below wr.heap.size wr wx)
      case first =>
        clear HHd3 HJ2 HJ HE HPl
        cases vb with
        | false =>
          have hr : res = true := HBad.out.symm
          subst hr
          clear hq hq2 hsn cC cN cP cJ HBad HV2
          generalize S x = sx at *
          apply wp_region_inv (V := [.eq (.slice (some ⟨gp, 0, none⟩) n cpp), .eq (.int .i64 (k : Int)), .eq (.pointer (some ⟨gp, k, none⟩)), .eq (.string sx), .eq (.bool false), .eq (.bool true), .eq (.bool true), .any, .any, .any, .any, .any, .any, .any, .any, .any, .any, .eq (.bool true), .eq (.bool true), .any, .any, .any, .any, .any, .any, .eq (.bool true), .eq (.bool true), .any, .any, .any, .eq (undef), .any, .any, .any, .any, .any, .any, .any, .any, .any, .any, .any, .any, .eq (.bool true)])
          case hm => kernel_rfl
          case hd => kernel_rfl
          case hb => kernel_rfl
          case hA =>
            intro vs
            simp only [puts, Act.put, List.setIfInBounds_toArray, List.set_cons_zero, List.set_cons_succ]
            exact rfl
          case hob =>
            refine Obs.cons _ _ _ _ _ _ ?o0 (Obs.cons _ _ _ _ _ _ ?o1 (Obs.cons _ _ _ _ _ _ ?o2 (Obs.cons _ _ _ _ _ _ ?o3 (Obs.cons _ _ _ _ _ _ ?o4 (Obs.cons _ _ _ _ _ _ ?o5 (Obs.cons _ _ _ _ _ _ ?o6 (Obs.cons _ _ _ _ _ _ ?o7 (Obs.cons _ _ _ _ _ _ ?o8 (Obs.cons _ _ _ _ _ _ ?o9 (Obs.cons _ _ _ _ _ _ ?o10 (Obs.cons _ _ _ _ _ _ ?o11 (Obs.cons _ _ _ _ _ _ ?o12 (Obs.cons _ _ _ _ _ _ ?o13 (Obs.cons _ _ _ _ _ _ ?o14 (Obs.cons _ _ _ _ _ _ ?o15 (Obs.cons _ _ _ _ _ _ ?o16 (Obs.cons _ _ _ _ _ _ ?o17 (Obs.cons _ _ _ _ _ _ ?o18 (Obs.cons _ _ _ _ _ _ ?o19 (Obs.cons _ _ _ _ _ _ ?o20 (Obs.cons _ _ _ _ _ _ ?o21 (Obs.cons _ _ _ _ _ _ ?o22 (Obs.cons _ _ _ _ _ _ ?o23 (Obs.cons _ _ _ _ _ _ ?o24 (Obs.cons _ _ _ _ _ _ ?o25 (Obs.cons _ _ _ _ _ _ ?o26 (Obs.cons _ _ _ _ _ _ ?o27 (Obs.cons _ _ _ _ _ _ ?o28 (Obs.cons _ _ _ _ _ _ ?o29 (Obs.cons _ _ _ _ _ _ ?o30 (Obs.cons _ _ _ _ _ _ ?o31 (Obs.cons _ _ _ _ _ _ ?o32 (Obs.cons _ _ _ _ _ _ ?o33 (Obs.cons _ _ _ _ _ _ ?o34 (Obs.cons _ _ _ _ _ _ ?o35 (Obs.cons _ _ _ _ _ _ ?o36 (Obs.cons _ _ _ _ _ _ ?o37 (Obs.cons _ _ _ _ _ _ ?o38 (Obs.cons _ _ _ _ _ _ ?o39 (Obs.cons _ _ _ _ _ _ ?o40 (Obs.cons _ _ _ _ _ _ ?o41 (Obs.cons _ _ _ _ _ _ ?o42 (Obs.cons _ _ _ _ _ _ ?o43 (Obs.nil _ _ _ _ _ _))))))))))))))))))))))))))))))))))))))))))))
            case o0 =>
              intro vs W hw hd K hK
              go_simp
              exact hK.out _ _ rfl (Below.refl _ _)
            case o1 =>
              intro vs W hw hd K hK
              go_simp
              exact hK.out _ _ rfl (Below.refl _ _)
            case o2 =>
              intro vs W hw hd K hK
              have h0 : vs 0 = .slice (some ⟨gp, 0, none⟩) n cpp := hd 0 (by kernel_rfl)
              have h1 : vs 1 = .int .i64 (k : Int) := hd 1 (by kernel_rfl)
              simp only [Nat.reduceAdd, h0, h1] at hK ⊢
              go_simp
              exact hK.out _ _ rfl (Below.refl _ _)
            case o3 =>
              intro vs W hw hd K hK
              have h2 : vs 2 = .pointer (some ⟨gp, k, none⟩) := hd 2 (by kernel_rfl)
              have c0 := HCell.out W hw
              simp only [Nat.reduceAdd, h2] at hK ⊢
              go_simp
              exact hK.out _ _ rfl (Below.refl _ _)
            case o4 =>
              intro vs W hw hd K hK
              have h3 : vs 3 = .string sx := hd 3 (by kernel_rfl)
              simp only [Nat.reduceAdd, h3] at hK ⊢
              go_simp
              refine (cV.out W).mono ?_
              rintro e W' ⟨rfl, hb'⟩
              exact hK.out _ _ rfl hb'
            case o5 =>
              intro vs W hw hd K hK
              have h4 : vs 4 = .bool false := hd 4 (by kernel_rfl)
              simp only [Nat.reduceAdd, h4] at hK ⊢
              go_simp
              exact hK.out _ _ rfl (Below.refl _ _)
            case o6 =>
              intro vs W hw hd K hK
              have h5 : vs 5 = .bool true := hd 5 (by kernel_rfl)
              simp only [Nat.reduceAdd, h5] at hK ⊢
              go_simp
              exact hK.out _ _ rfl (Below.refl _ _)
            case o7 =>
              intro vs W hw hd K hK
              have h6 : vs 6 = .bool true := hd 6 (by kernel_rfl)
              simp only [Nat.reduceAdd, h6] at hK ⊢
              go_simp
              exact hK.out _ _ trivial (Below.refl _ _)
            case o8 =>
              intro vs W hw hd K hK
              have h6 : vs 6 = .bool true := hd 6 (by kernel_rfl)
              simp only [Nat.reduceAdd, h6] at hK ⊢
              go_simp
              exact hK.out _ _ trivial (Below.refl _ _)
            case o9 =>
              intro vs W hw hd K hK
              have h6 : vs 6 = .bool true := hd 6 (by kernel_rfl)
              simp only [Nat.reduceAdd, h6] at hK ⊢
              go_simp
              exact hK.out _ _ trivial (Below.refl _ _)
            case o10 =>
              intro vs W hw hd K hK
              have h6 : vs 6 = .bool true := hd 6 (by kernel_rfl)
              simp only [Nat.reduceAdd, h6] at hK ⊢
              go_simp
              exact hK.out _ _ trivial (Below.refl _ _)
            case o11 =>
              intro vs W hw hd K hK
              have h6 : vs 6 = .bool true := hd 6 (by kernel_rfl)
              simp only [Nat.reduceAdd, h6] at hK ⊢
              go_simp
              exact hK.out _ _ trivial (Below.refl _ _)
            case o12 =>
              intro vs W hw hd K hK
              have h6 : vs 6 = .bool true := hd 6 (by kernel_rfl)
              simp only [Nat.reduceAdd, h6] at hK ⊢
              go_simp
              exact hK.out _ _ trivial (Below.refl _ _)
            case o13 =>
              intro vs W hw hd K hK
              have h6 : vs 6 = .bool true := hd 6 (by kernel_rfl)
              simp only [Nat.reduceAdd, h6] at hK ⊢
              go_simp
              exact hK.out _ _ trivial (Below.refl _ _)
            case o14 =>
              intro vs W hw hd K hK
              have h6 : vs 6 = .bool true := hd 6 (by kernel_rfl)
              simp only [Nat.reduceAdd, h6] at hK ⊢
              go_simp
              exact hK.out _ _ trivial (Below.refl _ _)
            case o15 =>
              intro vs W hw hd K hK
              have h6 : vs 6 = .bool true := hd 6 (by kernel_rfl)
              simp only [Nat.reduceAdd, h6] at hK ⊢
              go_simp
              exact hK.out _ _ trivial (Below.refl _ _)
            case o16 =>
              intro vs W hw hd K hK
              have h6 : vs 6 = .bool true := hd 6 (by kernel_rfl)
              simp only [Nat.reduceAdd, h6] at hK ⊢
              go_simp
              exact hK.out _ _ trivial (Below.refl _ _)
            case o17 =>
              intro vs W hw hd K hK
              have h6 : vs 6 = .bool true := hd 6 (by kernel_rfl)
              simp only [Nat.reduceAdd, h6] at hK ⊢
              go_simp
              exact hK.out _ _ rfl (Below.refl _ _)
            case o18 =>
              intro vs W hw hd K hK
              have h17 : vs 17 = .bool true := hd 17 (by kernel_rfl)
              simp only [Nat.reduceAdd, h17] at hK ⊢
              go_simp
              exact hK.out _ _ rfl (Below.refl _ _)
            case o19 =>
              intro vs W hw hd K hK
              have h18 : vs 18 = .bool true := hd 18 (by kernel_rfl)
              simp only [Nat.reduceAdd, h18] at hK ⊢
              go_simp
              exact hK.out _ _ trivial (Below.refl _ _)
            case o20 =>
              intro vs W hw hd K hK
              have h18 : vs 18 = .bool true := hd 18 (by kernel_rfl)
              simp only [Nat.reduceAdd, h18] at hK ⊢
              go_simp
              exact hK.out _ _ trivial (Below.refl _ _)
            case o21 =>
              intro vs W hw hd K hK
              have h18 : vs 18 = .bool true := hd 18 (by kernel_rfl)
              simp only [Nat.reduceAdd, h18] at hK ⊢
              go_simp
              exact hK.out _ _ trivial (Below.refl _ _)
            case o22 =>
              intro vs W hw hd K hK
              have h18 : vs 18 = .bool true := hd 18 (by kernel_rfl)
              simp only [Nat.reduceAdd, h18] at hK ⊢
              go_simp
              exact hK.out _ _ trivial (Below.refl _ _)
            case o23 =>
              intro vs W hw hd K hK
              have h18 : vs 18 = .bool true := hd 18 (by kernel_rfl)
              simp only [Nat.reduceAdd, h18] at hK ⊢
              go_simp
              exact hK.out _ _ trivial (Below.refl _ _)
            case o24 =>
              intro vs W hw hd K hK
              have h18 : vs 18 = .bool true := hd 18 (by kernel_rfl)
              simp only [Nat.reduceAdd, h18] at hK ⊢
              go_simp
              exact hK.out _ _ trivial (Below.refl _ _)
            case o25 =>
              intro vs W hw hd K hK
              have h18 : vs 18 = .bool true := hd 18 (by kernel_rfl)
              simp only [Nat.reduceAdd, h18] at hK ⊢
              go_simp
              exact hK.out _ _ rfl (Below.refl _ _)
            case o26 =>
              intro vs W hw hd K hK
              have h25 : vs 25 = .bool true := hd 25 (by kernel_rfl)
              simp only [Nat.reduceAdd, h25] at hK ⊢
              go_simp
              exact hK.out _ _ rfl (Below.refl _ _)
            case o27 =>
              intro vs W hw hd K hK
              have h26 : vs 26 = .bool true := hd 26 (by kernel_rfl)
              simp only [Nat.reduceAdd, h26] at hK ⊢
              go_simp
              exact hK.out _ _ trivial (Below.refl _ _)
            case o28 =>
              intro vs W hw hd K hK
              have h26 : vs 26 = .bool true := hd 26 (by kernel_rfl)
              simp only [Nat.reduceAdd, h26] at hK ⊢
              go_simp
              exact hK.out _ _ trivial (Below.refl _ _)
            case o29 =>
              intro vs W hw hd K hK
              have h26 : vs 26 = .bool true := hd 26 (by kernel_rfl)
              simp only [Nat.reduceAdd, h26] at hK ⊢
              go_simp
              exact hK.out _ _ trivial (Below.refl _ _)
            case o30 =>
              intro vs W hw hd K hK
              have h26 : vs 26 = .bool true := hd 26 (by kernel_rfl)
              simp only [Nat.reduceAdd, h26] at hK ⊢
              go_simp
              exact hK.out _ _ rfl (Below.refl _ _)
            case o31 =>
              intro vs W hw hd K hK
              have h30 : vs 30 = undef := hd 30 (by kernel_rfl)
              simp only [Nat.reduceAdd, h30] at hK ⊢
              go_simp
              exact hK.out _ _ trivial (Below.refl _ _)
            case o32 =>
              intro vs W hw hd K hK
              have h30 : vs 30 = undef := hd 30 (by kernel_rfl)
              simp only [Nat.reduceAdd, h30] at hK ⊢
              go_simp
              exact hK.out _ _ trivial (Below.refl _ _)
            case o33 =>
              intro vs W hw hd K hK
              have h30 : vs 30 = undef := hd 30 (by kernel_rfl)
              simp only [Nat.reduceAdd, h30] at hK ⊢
              go_simp
              exact hK.out _ _ trivial (Below.refl _ _)
            case o34 =>
              intro vs W hw hd K hK
              have h30 : vs 30 = undef := hd 30 (by kernel_rfl)
              simp only [Nat.reduceAdd, h30] at hK ⊢
              go_simp
              exact hK.out _ _ trivial (Below.refl _ _)
            case o35 =>
              intro vs W hw hd K hK
              have h30 : vs 30 = undef := hd 30 (by kernel_rfl)
              simp only [Nat.reduceAdd, h30] at hK ⊢
              go_simp
              exact hK.out _ _ trivial (Below.refl _ _)
            case o36 =>
              intro vs W hw hd K hK
              have h30 : vs 30 = undef := hd 30 (by kernel_rfl)
              simp only [Nat.reduceAdd, h30] at hK ⊢
              go_simp
              exact hK.out _ _ trivial (Below.refl _ _)
            case o37 =>
              intro vs W hw hd K hK
              have h30 : vs 30 = undef := hd 30 (by kernel_rfl)
              simp only [Nat.reduceAdd, h30] at hK ⊢
              go_simp
              exact hK.out _ _ trivial (Below.refl _ _)
            case o38 =>
              intro vs W hw hd K hK
              have h30 : vs 30 = undef := hd 30 (by kernel_rfl)
              simp only [Nat.reduceAdd, h30] at hK ⊢
              go_simp
              exact hK.out _ _ trivial (Below.refl _ _)
            case o39 =>
              intro vs W hw hd K hK
              have h30 : vs 30 = undef := hd 30 (by kernel_rfl)
              simp only [Nat.reduceAdd, h30] at hK ⊢
              go_simp
              exact hK.out _ _ trivial (Below.refl _ _)
            case o40 =>
              intro vs W hw hd K hK
              have h30 : vs 30 = undef := hd 30 (by kernel_rfl)
              simp only [Nat.reduceAdd, h30] at hK ⊢
              go_simp
              exact hK.out _ _ trivial (Below.refl _ _)
            case o41 =>
              intro vs W hw hd K hK
              have h30 : vs 30 = undef := hd 30 (by kernel_rfl)
              simp only [Nat.reduceAdd, h30] at hK ⊢
              go_simp
              exact hK.out _ _ trivial (Below.refl _ _)
            case o42 =>
              intro vs W hw hd K hK
              have h26 : vs 26 = .bool true := hd 26 (by kernel_rfl)
              simp only [Nat.reduceAdd, h26] at hK ⊢
              go_simp
              exact hK.out _ _ trivial (Below.refl _ _)
            case o43 =>
              intro vs W hw hd K hK
              have h26 : vs 26 = .bool true := hd 26 (by kernel_rfl)
              simp only [Nat.reduceAdd, h26] at hK ⊢
              go_simp
              exact hK.out _ _ rfl (Below.refl _ _)
          case hfin =>
            intro vs W hw hd
            have h43 : vs 43 = .bool true := hd 43 (by decide)
            simp only [Nat.reduceAdd, h43]
            go_wp2_with fail
            go_meet
            exact ⟨rfl, hw⟩
        | true =>
          have cC := Lib.hid (cC.out (by simp))
          have cN := Lib.hid (cN.out (by simp))
          have cP := Lib.hid (cP.out (by simp))
          have cJ := Lib.hid (cJ.out (by simp))
          have hbad := HBad.out
          rw [Bool.not_true, Bool.false_or] at hbad
          clear HBad HV2
          by_cases hyx : y = x
          · rw [decide_eq_true hyx, Bool.not_true, Bool.false_or] at hbad
            rw [decide_eq_true hyx] at hq
            clear hyx
            by_cases hz0 : z = []
            · rw [decide_eq_true hz0, Bool.true_or] at hbad
              subst hbad
              subst hz0
              have e0 : S [] = (⟨#[]⟩ : ByteArray) := rfl
              rw [e0] at cN
              obtain ⟨sn, hsn2⟩ : ∃ s, (⟨#[]⟩ : ByteArray) = s := ⟨_, rfl⟩
              have hn1 : sn.toList.isEmpty = true := by rw [← hsn2, ByteArray.toList_eq]; rfl
              have hn2 : sn.toList = [] := by rw [← hsn2, ByteArray.toList_eq]
              rw [hsn2] at cN
              clear hsn2 hsn hq2 cP cJ e0
              generalize S x = sx at *
              generalize S y = sy at *
              apply wp_region_inv (V := [.eq (.slice (some ⟨gp, 0, none⟩) n cpp), .eq (.int .i64 (k : Int)), .eq (.pointer (some ⟨gp, k, none⟩)), .eq (.string sx), .eq (.bool true), .eq (.bool false), .eq (.bool false), .eq (.slice (some ⟨gp, 0, none⟩) n cpp), .eq (.int .i64 (k : Int)), .eq (.pointer (some ⟨gp, k, none⟩)), .eq (.string sx), .eq (.string sy), .eq (.slice (some ⟨gp, 0, none⟩) n cpp), .eq (.int .i64 (k : Int)), .eq (.pointer (some ⟨gp, k, none⟩)), .eq (.string sx), .eq (.bool false), .eq (.bool false), .eq (.bool false), .eq (.slice (some ⟨gp, 0, none⟩) n cpp), .eq (.int .i64 (k : Int)), .eq (.pointer (some ⟨gp, k, none⟩)), .eq (.string sx), .eq (.string sn), .eq (.bool true), .eq (.bool true), .eq (.bool true), .any, .any, .any, .eq (undef), .any, .any, .any, .any, .any, .any, .any, .any, .any, .any, .any, .any, .eq (.bool true)])
              case hm => kernel_rfl
              case hd => kernel_rfl
              case hb => kernel_rfl
              case hA =>
                intro vs
                simp only [puts, Act.put, List.setIfInBounds_toArray, List.set_cons_zero, List.set_cons_succ]
                exact rfl
              case hob =>
                refine Obs.cons _ _ _ _ _ _ ?o0 (Obs.cons _ _ _ _ _ _ ?o1 (Obs.cons _ _ _ _ _ _ ?o2 (Obs.cons _ _ _ _ _ _ ?o3 (Obs.cons _ _ _ _ _ _ ?o4 (Obs.cons _ _ _ _ _ _ ?o5 (Obs.cons _ _ _ _ _ _ ?o6 (Obs.cons _ _ _ _ _ _ ?o7 (Obs.cons _ _ _ _ _ _ ?o8 (Obs.cons _ _ _ _ _ _ ?o9 (Obs.cons _ _ _ _ _ _ ?o10 (Obs.cons _ _ _ _ _ _ ?o11 (Obs.cons _ _ _ _ _ _ ?o12 (Obs.cons _ _ _ _ _ _ ?o13 (Obs.cons _ _ _ _ _ _ ?o14 (Obs.cons _ _ _ _ _ _ ?o15 (Obs.cons _ _ _ _ _ _ ?o16 (Obs.cons _ _ _ _ _ _ ?o17 (Obs.cons _ _ _ _ _ _ ?o18 (Obs.cons _ _ _ _ _ _ ?o19 (Obs.cons _ _ _ _ _ _ ?o20 (Obs.cons _ _ _ _ _ _ ?o21 (Obs.cons _ _ _ _ _ _ ?o22 (Obs.cons _ _ _ _ _ _ ?o23 (Obs.cons _ _ _ _ _ _ ?o24 (Obs.cons _ _ _ _ _ _ ?o25 (Obs.cons _ _ _ _ _ _ ?o26 (Obs.cons _ _ _ _ _ _ ?o27 (Obs.cons _ _ _ _ _ _ ?o28 (Obs.cons _ _ _ _ _ _ ?o29 (Obs.cons _ _ _ _ _ _ ?o30 (Obs.cons _ _ _ _ _ _ ?o31 (Obs.cons _ _ _ _ _ _ ?o32 (Obs.cons _ _ _ _ _ _ ?o33 (Obs.cons _ _ _ _ _ _ ?o34 (Obs.cons _ _ _ _ _ _ ?o35 (Obs.cons _ _ _ _ _ _ ?o36 (Obs.cons _ _ _ _ _ _ ?o37 (Obs.cons _ _ _ _ _ _ ?o38 (Obs.cons _ _ _ _ _ _ ?o39 (Obs.cons _ _ _ _ _ _ ?o40 (Obs.cons _ _ _ _ _ _ ?o41 (Obs.cons _ _ _ _ _ _ ?o42 (Obs.cons _ _ _ _ _ _ ?o43 (Obs.nil _ _ _ _ _ _))))))))))))))))))))))))))))))))))))))))))))
                case o0 =>
                  intro vs W hw hd K hK
                  go_simp
                  exact hK.out _ _ rfl (Below.refl _ _)
                case o1 =>
                  intro vs W hw hd K hK
                  go_simp
                  exact hK.out _ _ rfl (Below.refl _ _)
                case o2 =>
                  intro vs W hw hd K hK
                  have h0 : vs 0 = .slice (some ⟨gp, 0, none⟩) n cpp := hd 0 (by kernel_rfl)
                  have h1 : vs 1 = .int .i64 (k : Int) := hd 1 (by kernel_rfl)
                  simp only [Nat.reduceAdd, h0, h1] at hK ⊢
                  go_simp
                  exact hK.out _ _ rfl (Below.refl _ _)
                case o3 =>
                  intro vs W hw hd K hK
                  have h2 : vs 2 = .pointer (some ⟨gp, k, none⟩) := hd 2 (by kernel_rfl)
                  have c0 := HCell.out W hw
                  simp only [Nat.reduceAdd, h2] at hK ⊢
                  go_simp
                  exact hK.out _ _ rfl (Below.refl _ _)
                case o4 =>
                  intro vs W hw hd K hK
                  have h3 : vs 3 = .string sx := hd 3 (by kernel_rfl)
                  simp only [Nat.reduceAdd, h3] at hK ⊢
                  go_simp
                  refine (cV.out W).mono ?_
                  rintro e W' ⟨rfl, hb'⟩
                  exact hK.out _ _ rfl hb'
                case o5 =>
                  intro vs W hw hd K hK
                  have h4 : vs 4 = .bool true := hd 4 (by kernel_rfl)
                  simp only [Nat.reduceAdd, h4] at hK ⊢
                  go_simp
                  exact hK.out _ _ rfl (Below.refl _ _)
                case o6 =>
                  intro vs W hw hd K hK
                  have h5 : vs 5 = .bool false := hd 5 (by kernel_rfl)
                  simp only [Nat.reduceAdd, h5] at hK ⊢
                  go_simp
                  exact hK.out _ _ rfl (Below.refl _ _)
                case o7 =>
                  intro vs W hw hd K hK
                  have h6 : vs 6 = .bool false := hd 6 (by kernel_rfl)
                  simp only [Nat.reduceAdd, h6] at hK ⊢
                  go_simp
                  exact hK.out _ _ rfl (Below.refl _ _)
                case o8 =>
                  intro vs W hw hd K hK
                  have h6 : vs 6 = .bool false := hd 6 (by kernel_rfl)
                  simp only [Nat.reduceAdd, h6] at hK ⊢
                  go_simp
                  exact hK.out _ _ rfl (Below.refl _ _)
                case o9 =>
                  intro vs W hw hd K hK
                  have h6 : vs 6 = .bool false := hd 6 (by kernel_rfl)
                  have h7 : vs 7 = .slice (some ⟨gp, 0, none⟩) n cpp := hd 7 (by kernel_rfl)
                  have h8 : vs 8 = .int .i64 (k : Int) := hd 8 (by kernel_rfl)
                  simp only [Nat.reduceAdd, h6, h7, h8] at hK ⊢
                  go_simp
                  exact hK.out _ _ rfl (Below.refl _ _)
                case o10 =>
                  intro vs W hw hd K hK
                  have h6 : vs 6 = .bool false := hd 6 (by kernel_rfl)
                  have h9 : vs 9 = .pointer (some ⟨gp, k, none⟩) := hd 9 (by kernel_rfl)
                  have c0 := HCell.out W hw
                  simp only [Nat.reduceAdd, h6, h9] at hK ⊢
                  go_simp
                  exact hK.out _ _ rfl (Below.refl _ _)
                case o11 =>
                  intro vs W hw hd K hK
                  have h6 : vs 6 = .bool false := hd 6 (by kernel_rfl)
                  have h10 : vs 10 = .string sx := hd 10 (by kernel_rfl)
                  simp only [Nat.reduceAdd, h6, h10] at hK ⊢
                  go_simp
                  refine (cC.out W).mono ?_
                  rintro e W' ⟨rfl, hb'⟩
                  exact hK.out _ _ rfl hb'
                case o12 =>
                  intro vs W hw hd K hK
                  have h6 : vs 6 = .bool false := hd 6 (by kernel_rfl)
                  simp only [Nat.reduceAdd, h6] at hK ⊢
                  go_simp
                  exact hK.out _ _ rfl (Below.refl _ _)
                case o13 =>
                  intro vs W hw hd K hK
                  have h6 : vs 6 = .bool false := hd 6 (by kernel_rfl)
                  simp only [Nat.reduceAdd, h6] at hK ⊢
                  go_simp
                  exact hK.out _ _ rfl (Below.refl _ _)
                case o14 =>
                  intro vs W hw hd K hK
                  have h6 : vs 6 = .bool false := hd 6 (by kernel_rfl)
                  have h12 : vs 12 = .slice (some ⟨gp, 0, none⟩) n cpp := hd 12 (by kernel_rfl)
                  have h13 : vs 13 = .int .i64 (k : Int) := hd 13 (by kernel_rfl)
                  simp only [Nat.reduceAdd, h6, h12, h13] at hK ⊢
                  go_simp
                  exact hK.out _ _ rfl (Below.refl _ _)
                case o15 =>
                  intro vs W hw hd K hK
                  have h6 : vs 6 = .bool false := hd 6 (by kernel_rfl)
                  have h14 : vs 14 = .pointer (some ⟨gp, k, none⟩) := hd 14 (by kernel_rfl)
                  have c0 := HCell.out W hw
                  simp only [Nat.reduceAdd, h6, h14] at hK ⊢
                  go_simp
                  exact hK.out _ _ rfl (Below.refl _ _)
                case o16 =>
                  intro vs W hw hd K hK
                  have h6 : vs 6 = .bool false := hd 6 (by kernel_rfl)
                  have h11 : vs 11 = .string sy := hd 11 (by kernel_rfl)
                  have h15 : vs 15 = .string sx := hd 15 (by kernel_rfl)
                  simp only [Nat.reduceAdd, h6, h11, h15] at hK ⊢
                  go_simp
                  exact hK.out _ _ rfl (Below.refl _ _)
                case o17 =>
                  intro vs W hw hd K hK
                  have h6 : vs 6 = .bool false := hd 6 (by kernel_rfl)
                  have h16 : vs 16 = .bool false := hd 16 (by kernel_rfl)
                  simp only [Nat.reduceAdd, h6, h16] at hK ⊢
                  go_simp
                  exact hK.out _ _ rfl (Below.refl _ _)
                case o18 =>
                  intro vs W hw hd K hK
                  have h17 : vs 17 = .bool false := hd 17 (by kernel_rfl)
                  simp only [Nat.reduceAdd, h17] at hK ⊢
                  go_simp
                  exact hK.out _ _ rfl (Below.refl _ _)
                case o19 =>
                  intro vs W hw hd K hK
                  have h18 : vs 18 = .bool false := hd 18 (by kernel_rfl)
                  simp only [Nat.reduceAdd, h18] at hK ⊢
                  go_simp
                  exact hK.out _ _ rfl (Below.refl _ _)
                case o20 =>
                  intro vs W hw hd K hK
                  have h18 : vs 18 = .bool false := hd 18 (by kernel_rfl)
                  simp only [Nat.reduceAdd, h18] at hK ⊢
                  go_simp
                  exact hK.out _ _ rfl (Below.refl _ _)
                case o21 =>
                  intro vs W hw hd K hK
                  have h18 : vs 18 = .bool false := hd 18 (by kernel_rfl)
                  have h19 : vs 19 = .slice (some ⟨gp, 0, none⟩) n cpp := hd 19 (by kernel_rfl)
                  have h20 : vs 20 = .int .i64 (k : Int) := hd 20 (by kernel_rfl)
                  simp only [Nat.reduceAdd, h18, h19, h20] at hK ⊢
                  go_simp
                  exact hK.out _ _ rfl (Below.refl _ _)
                case o22 =>
                  intro vs W hw hd K hK
                  have h18 : vs 18 = .bool false := hd 18 (by kernel_rfl)
                  have h21 : vs 21 = .pointer (some ⟨gp, k, none⟩) := hd 21 (by kernel_rfl)
                  have c0 := HCell.out W hw
                  simp only [Nat.reduceAdd, h18, h21] at hK ⊢
                  go_simp
                  exact hK.out _ _ rfl (Below.refl _ _)
                case o23 =>
                  intro vs W hw hd K hK
                  have h18 : vs 18 = .bool false := hd 18 (by kernel_rfl)
                  have h22 : vs 22 = .string sx := hd 22 (by kernel_rfl)
                  simp only [Nat.reduceAdd, h18, h22] at hK ⊢
                  go_simp
                  refine (cN.out W).mono ?_
                  rintro e W' ⟨rfl, hb'⟩
                  exact hK.out _ _ rfl hb'
                case o24 =>
                  intro vs W hw hd K hK
                  have h18 : vs 18 = .bool false := hd 18 (by kernel_rfl)
                  have h23 : vs 23 = .string sn := hd 23 (by kernel_rfl)
                  simp only [Nat.reduceAdd, h18, h23] at hK ⊢
                  go_simp
                  exact hK.out _ _ rfl (Below.refl _ _)
                case o25 =>
                  intro vs W hw hd K hK
                  have h18 : vs 18 = .bool false := hd 18 (by kernel_rfl)
                  have h24 : vs 24 = .bool true := hd 24 (by kernel_rfl)
                  simp only [Nat.reduceAdd, h18, h24] at hK ⊢
                  go_simp
                  exact hK.out _ _ rfl (Below.refl _ _)
                case o26 =>
                  intro vs W hw hd K hK
                  have h25 : vs 25 = .bool true := hd 25 (by kernel_rfl)
                  simp only [Nat.reduceAdd, h25] at hK ⊢
                  go_simp
                  exact hK.out _ _ rfl (Below.refl _ _)
                case o27 =>
                  intro vs W hw hd K hK
                  have h26 : vs 26 = .bool true := hd 26 (by kernel_rfl)
                  simp only [Nat.reduceAdd, h26] at hK ⊢
                  go_simp
                  exact hK.out _ _ trivial (Below.refl _ _)
                case o28 =>
                  intro vs W hw hd K hK
                  have h26 : vs 26 = .bool true := hd 26 (by kernel_rfl)
                  simp only [Nat.reduceAdd, h26] at hK ⊢
                  go_simp
                  exact hK.out _ _ trivial (Below.refl _ _)
                case o29 =>
                  intro vs W hw hd K hK
                  have h26 : vs 26 = .bool true := hd 26 (by kernel_rfl)
                  simp only [Nat.reduceAdd, h26] at hK ⊢
                  go_simp
                  exact hK.out _ _ trivial (Below.refl _ _)
                case o30 =>
                  intro vs W hw hd K hK
                  have h26 : vs 26 = .bool true := hd 26 (by kernel_rfl)
                  simp only [Nat.reduceAdd, h26] at hK ⊢
                  go_simp
                  exact hK.out _ _ rfl (Below.refl _ _)
                case o31 =>
                  intro vs W hw hd K hK
                  have h30 : vs 30 = undef := hd 30 (by kernel_rfl)
                  simp only [Nat.reduceAdd, h30] at hK ⊢
                  go_simp
                  exact hK.out _ _ trivial (Below.refl _ _)
                case o32 =>
                  intro vs W hw hd K hK
                  have h30 : vs 30 = undef := hd 30 (by kernel_rfl)
                  simp only [Nat.reduceAdd, h30] at hK ⊢
                  go_simp
                  exact hK.out _ _ trivial (Below.refl _ _)
                case o33 =>
                  intro vs W hw hd K hK
                  have h30 : vs 30 = undef := hd 30 (by kernel_rfl)
                  simp only [Nat.reduceAdd, h30] at hK ⊢
                  go_simp
                  exact hK.out _ _ trivial (Below.refl _ _)
                case o34 =>
                  intro vs W hw hd K hK
                  have h30 : vs 30 = undef := hd 30 (by kernel_rfl)
                  simp only [Nat.reduceAdd, h30] at hK ⊢
                  go_simp
                  exact hK.out _ _ trivial (Below.refl _ _)
                case o35 =>
                  intro vs W hw hd K hK
                  have h30 : vs 30 = undef := hd 30 (by kernel_rfl)
                  simp only [Nat.reduceAdd, h30] at hK ⊢
                  go_simp
                  exact hK.out _ _ trivial (Below.refl _ _)
                case o36 =>
                  intro vs W hw hd K hK
                  have h30 : vs 30 = undef := hd 30 (by kernel_rfl)
                  simp only [Nat.reduceAdd, h30] at hK ⊢
                  go_simp
                  exact hK.out _ _ trivial (Below.refl _ _)
                case o37 =>
                  intro vs W hw hd K hK
                  have h30 : vs 30 = undef := hd 30 (by kernel_rfl)
                  simp only [Nat.reduceAdd, h30] at hK ⊢
                  go_simp
                  exact hK.out _ _ trivial (Below.refl _ _)
                case o38 =>
                  intro vs W hw hd K hK
                  have h30 : vs 30 = undef := hd 30 (by kernel_rfl)
                  simp only [Nat.reduceAdd, h30] at hK ⊢
                  go_simp
                  exact hK.out _ _ trivial (Below.refl _ _)
                case o39 =>
                  intro vs W hw hd K hK
                  have h30 : vs 30 = undef := hd 30 (by kernel_rfl)
                  simp only [Nat.reduceAdd, h30] at hK ⊢
                  go_simp
                  exact hK.out _ _ trivial (Below.refl _ _)
                case o40 =>
                  intro vs W hw hd K hK
                  have h30 : vs 30 = undef := hd 30 (by kernel_rfl)
                  simp only [Nat.reduceAdd, h30] at hK ⊢
                  go_simp
                  exact hK.out _ _ trivial (Below.refl _ _)
                case o41 =>
                  intro vs W hw hd K hK
                  have h30 : vs 30 = undef := hd 30 (by kernel_rfl)
                  simp only [Nat.reduceAdd, h30] at hK ⊢
                  go_simp
                  exact hK.out _ _ trivial (Below.refl _ _)
                case o42 =>
                  intro vs W hw hd K hK
                  have h26 : vs 26 = .bool true := hd 26 (by kernel_rfl)
                  simp only [Nat.reduceAdd, h26] at hK ⊢
                  go_simp
                  exact hK.out _ _ trivial (Below.refl _ _)
                case o43 =>
                  intro vs W hw hd K hK
                  have h26 : vs 26 = .bool true := hd 26 (by kernel_rfl)
                  simp only [Nat.reduceAdd, h26] at hK ⊢
                  go_simp
                  exact hK.out _ _ rfl (Below.refl _ _)
              case hfin =>
                intro vs W hw hd
                have h43 : vs 43 = .bool true := hd 43 (by decide)
                simp only [Nat.reduceAdd, h43]
                go_wp2_with fail
                go_meet
                exact ⟨rfl, hw⟩
            · obtain ⟨s1, s2⟩ := hsn hz0
              rw [decide_eq_false hz0, Bool.false_or] at hbad
              clear hz0 hsn
              by_cases hk3 : kd = 3
              · rw [decide_eq_true hk3, Bool.true_and] at hbad
                obtain ⟨jb0, hjb⟩ : ∃ b, decide (jx = x) = b := ⟨_, rfl⟩
                rw [hjb] at hbad hq2
                obtain ⟨jb, hjb2⟩ : ∃ b, (!jb0) = b := ⟨_, rfl⟩
                rw [hjb2] at hbad
                have hjb3 : jb0 = !jb := by rw [← hjb2, Bool.not_not]
                rw [hjb3] at hq2
                subst hbad
                have k3 : (kd == 3) = true := by simpa using hk3
                have k3d : decide (kd = 3) = true := decide_eq_true hk3
                clear hjb hjb2 hjb3 hk3
                generalize S x = sx at *
                generalize S y = sy at *
                generalize S z = sn at *
                generalize S jx = sj at *
                apply wp_region_inv (V := [.eq (.slice (some ⟨gp, 0, none⟩) n cpp), .eq (.int .i64 (k : Int)), .eq (.pointer (some ⟨gp, k, none⟩)), .eq (.string sx), .eq (.bool true), .eq (.bool false), .eq (.bool false), .eq (.slice (some ⟨gp, 0, none⟩) n cpp), .eq (.int .i64 (k : Int)), .eq (.pointer (some ⟨gp, k, none⟩)), .eq (.string sx), .eq (.string sy), .eq (.slice (some ⟨gp, 0, none⟩) n cpp), .eq (.int .i64 (k : Int)), .eq (.pointer (some ⟨gp, k, none⟩)), .eq (.string sx), .eq (.bool false), .eq (.bool false), .eq (.bool false), .eq (.slice (some ⟨gp, 0, none⟩) n cpp), .eq (.int .i64 (k : Int)), .eq (.pointer (some ⟨gp, k, none⟩)), .eq (.string sx), .eq (.string sn), .eq (.bool false), .eq (.bool false), .eq (.bool false), .eq (.pointer (some ⟨w.heap.size, 1, none⟩)), .eq (.int .i64 kd), .eq (.bool true), .eq (.bool true), .eq (.slice (some ⟨gp, 0, none⟩) n cpp), .eq (.int .i64 (k : Int)), .eq (.pointer (some ⟨gp, k, none⟩)), .eq (.string sx), .bl13 PX, .eq (.string sj), .eq (.slice (some ⟨gp, 0, none⟩) n cpp), .eq (.int .i64 (k : Int)), .eq (.pointer (some ⟨gp, k, none⟩)), .eq (.string sx), .eq (.bool jb), .eq (.bool jb), .eq (.bool jb)])
                case hm => kernel_rfl
                case hd => kernel_rfl
                case hb => kernel_rfl
                case hA =>
                  intro vs
                  simp only [puts, Act.put, List.setIfInBounds_toArray, List.set_cons_zero, List.set_cons_succ]
                  exact rfl
                case hob =>
                  refine Obs.cons _ _ _ _ _ _ ?o0 (Obs.cons _ _ _ _ _ _ ?o1 (Obs.cons _ _ _ _ _ _ ?o2 (Obs.cons _ _ _ _ _ _ ?o3 (Obs.cons _ _ _ _ _ _ ?o4 (Obs.cons _ _ _ _ _ _ ?o5 (Obs.cons _ _ _ _ _ _ ?o6 (Obs.cons _ _ _ _ _ _ ?o7 (Obs.cons _ _ _ _ _ _ ?o8 (Obs.cons _ _ _ _ _ _ ?o9 (Obs.cons _ _ _ _ _ _ ?o10 (Obs.cons _ _ _ _ _ _ ?o11 (Obs.cons _ _ _ _ _ _ ?o12 (Obs.cons _ _ _ _ _ _ ?o13 (Obs.cons _ _ _ _ _ _ ?o14 (Obs.cons _ _ _ _ _ _ ?o15 (Obs.cons _ _ _ _ _ _ ?o16 (Obs.cons _ _ _ _ _ _ ?o17 (Obs.cons _ _ _ _ _ _ ?o18 (Obs.cons _ _ _ _ _ _ ?o19 (Obs.cons _ _ _ _ _ _ ?o20 (Obs.cons _ _ _ _ _ _ ?o21 (Obs.cons _ _ _ _ _ _ ?o22 (Obs.cons _ _ _ _ _ _ ?o23 (Obs.cons _ _ _ _ _ _ ?o24 (Obs.cons _ _ _ _ _ _ ?o25 (Obs.cons _ _ _ _ _ _ ?o26 (Obs.cons _ _ _ _ _ _ ?o27 (Obs.cons _ _ _ _ _ _ ?o28 (Obs.cons _ _ _ _ _ _ ?o29 (Obs.cons _ _ _ _ _ _ ?o30 (Obs.cons _ _ _ _ _ _ ?o31 (Obs.cons _ _ _ _ _ _ ?o32 (Obs.cons _ _ _ _ _ _ ?o33 (Obs.cons _ _ _ _ _ _ ?o34 (Obs.cons _ _ _ _ _ _ ?o35 (Obs.cons _ _ _ _ _ _ ?o36 (Obs.cons _ _ _ _ _ _ ?o37 (Obs.cons _ _ _ _ _ _ ?o38 (Obs.cons _ _ _ _ _ _ ?o39 (Obs.cons _ _ _ _ _ _ ?o40 (Obs.cons _ _ _ _ _ _ ?o41 (Obs.cons _ _ _ _ _ _ ?o42 (Obs.cons _ _ _ _ _ _ ?o43 (Obs.nil _ _ _ _ _ _))))))))))))))))))))))))))))))))))))))))))))
                  case o0 =>
                    intro vs W hw hd K hK
                    go_simp
                    exact hK.out _ _ rfl (Below.refl _ _)
                  case o1 =>
                    intro vs W hw hd K hK
                    go_simp
                    exact hK.out _ _ rfl (Below.refl _ _)
                  case o2 =>
                    intro vs W hw hd K hK
                    have h0 : vs 0 = .slice (some ⟨gp, 0, none⟩) n cpp := hd 0 (by kernel_rfl)
                    have h1 : vs 1 = .int .i64 (k : Int) := hd 1 (by kernel_rfl)
                    simp only [Nat.reduceAdd, h0, h1] at hK ⊢
                    go_simp
                    exact hK.out _ _ rfl (Below.refl _ _)
                  case o3 =>
                    intro vs W hw hd K hK
                    have h2 : vs 2 = .pointer (some ⟨gp, k, none⟩) := hd 2 (by kernel_rfl)
                    have c0 := HCell.out W hw
                    simp only [Nat.reduceAdd, h2] at hK ⊢
                    go_simp
                    exact hK.out _ _ rfl (Below.refl _ _)
                  case o4 =>
                    intro vs W hw hd K hK
                    have h3 : vs 3 = .string sx := hd 3 (by kernel_rfl)
                    simp only [Nat.reduceAdd, h3] at hK ⊢
                    go_simp
                    refine (cV.out W).mono ?_
                    rintro e W' ⟨rfl, hb'⟩
                    exact hK.out _ _ rfl hb'
                  case o5 =>
                    intro vs W hw hd K hK
                    have h4 : vs 4 = .bool true := hd 4 (by kernel_rfl)
                    simp only [Nat.reduceAdd, h4] at hK ⊢
                    go_simp
                    exact hK.out _ _ rfl (Below.refl _ _)
                  case o6 =>
                    intro vs W hw hd K hK
                    have h5 : vs 5 = .bool false := hd 5 (by kernel_rfl)
                    simp only [Nat.reduceAdd, h5] at hK ⊢
                    go_simp
                    exact hK.out _ _ rfl (Below.refl _ _)
                  case o7 =>
                    intro vs W hw hd K hK
                    have h6 : vs 6 = .bool false := hd 6 (by kernel_rfl)
                    simp only [Nat.reduceAdd, h6] at hK ⊢
                    go_simp
                    exact hK.out _ _ rfl (Below.refl _ _)
                  case o8 =>
                    intro vs W hw hd K hK
                    have h6 : vs 6 = .bool false := hd 6 (by kernel_rfl)
                    simp only [Nat.reduceAdd, h6] at hK ⊢
                    go_simp
                    exact hK.out _ _ rfl (Below.refl _ _)
                  case o9 =>
                    intro vs W hw hd K hK
                    have h6 : vs 6 = .bool false := hd 6 (by kernel_rfl)
                    have h7 : vs 7 = .slice (some ⟨gp, 0, none⟩) n cpp := hd 7 (by kernel_rfl)
                    have h8 : vs 8 = .int .i64 (k : Int) := hd 8 (by kernel_rfl)
                    simp only [Nat.reduceAdd, h6, h7, h8] at hK ⊢
                    go_simp
                    exact hK.out _ _ rfl (Below.refl _ _)
                  case o10 =>
                    intro vs W hw hd K hK
                    have h6 : vs 6 = .bool false := hd 6 (by kernel_rfl)
                    have h9 : vs 9 = .pointer (some ⟨gp, k, none⟩) := hd 9 (by kernel_rfl)
                    have c0 := HCell.out W hw
                    simp only [Nat.reduceAdd, h6, h9] at hK ⊢
                    go_simp
                    exact hK.out _ _ rfl (Below.refl _ _)
                  case o11 =>
                    intro vs W hw hd K hK
                    have h6 : vs 6 = .bool false := hd 6 (by kernel_rfl)
                    have h10 : vs 10 = .string sx := hd 10 (by kernel_rfl)
                    simp only [Nat.reduceAdd, h6, h10] at hK ⊢
                    go_simp
                    refine (cC.out W).mono ?_
                    rintro e W' ⟨rfl, hb'⟩
                    exact hK.out _ _ rfl hb'
                  case o12 =>
                    intro vs W hw hd K hK
                    have h6 : vs 6 = .bool false := hd 6 (by kernel_rfl)
                    simp only [Nat.reduceAdd, h6] at hK ⊢
                    go_simp
                    exact hK.out _ _ rfl (Below.refl _ _)
                  case o13 =>
                    intro vs W hw hd K hK
                    have h6 : vs 6 = .bool false := hd 6 (by kernel_rfl)
                    simp only [Nat.reduceAdd, h6] at hK ⊢
                    go_simp
                    exact hK.out _ _ rfl (Below.refl _ _)
                  case o14 =>
                    intro vs W hw hd K hK
                    have h6 : vs 6 = .bool false := hd 6 (by kernel_rfl)
                    have h12 : vs 12 = .slice (some ⟨gp, 0, none⟩) n cpp := hd 12 (by kernel_rfl)
                    have h13 : vs 13 = .int .i64 (k : Int) := hd 13 (by kernel_rfl)
                    simp only [Nat.reduceAdd, h6, h12, h13] at hK ⊢
                    go_simp
                    exact hK.out _ _ rfl (Below.refl _ _)
                  case o15 =>
                    intro vs W hw hd K hK
                    have h6 : vs 6 = .bool false := hd 6 (by kernel_rfl)
                    have h14 : vs 14 = .pointer (some ⟨gp, k, none⟩) := hd 14 (by kernel_rfl)
                    have c0 := HCell.out W hw
                    simp only [Nat.reduceAdd, h6, h14] at hK ⊢
                    go_simp
                    exact hK.out _ _ rfl (Below.refl _ _)
                  case o16 =>
                    intro vs W hw hd K hK
                    have h6 : vs 6 = .bool false := hd 6 (by kernel_rfl)
                    have h11 : vs 11 = .string sy := hd 11 (by kernel_rfl)
                    have h15 : vs 15 = .string sx := hd 15 (by kernel_rfl)
                    simp only [Nat.reduceAdd, h6, h11, h15] at hK ⊢
                    go_simp
                    exact hK.out _ _ rfl (Below.refl _ _)
                  case o17 =>
                    intro vs W hw hd K hK
                    have h6 : vs 6 = .bool false := hd 6 (by kernel_rfl)
                    have h16 : vs 16 = .bool false := hd 16 (by kernel_rfl)
                    simp only [Nat.reduceAdd, h6, h16] at hK ⊢
                    go_simp
                    exact hK.out _ _ rfl (Below.refl _ _)
                  case o18 =>
                    intro vs W hw hd K hK
                    have h17 : vs 17 = .bool false := hd 17 (by kernel_rfl)
                    simp only [Nat.reduceAdd, h17] at hK ⊢
                    go_simp
                    exact hK.out _ _ rfl (Below.refl _ _)
                  case o19 =>
                    intro vs W hw hd K hK
                    have h18 : vs 18 = .bool false := hd 18 (by kernel_rfl)
                    simp only [Nat.reduceAdd, h18] at hK ⊢
                    go_simp
                    exact hK.out _ _ rfl (Below.refl _ _)
                  case o20 =>
                    intro vs W hw hd K hK
                    have h18 : vs 18 = .bool false := hd 18 (by kernel_rfl)
                    simp only [Nat.reduceAdd, h18] at hK ⊢
                    go_simp
                    exact hK.out _ _ rfl (Below.refl _ _)
                  case o21 =>
                    intro vs W hw hd K hK
                    have h18 : vs 18 = .bool false := hd 18 (by kernel_rfl)
                    have h19 : vs 19 = .slice (some ⟨gp, 0, none⟩) n cpp := hd 19 (by kernel_rfl)
                    have h20 : vs 20 = .int .i64 (k : Int) := hd 20 (by kernel_rfl)
                    simp only [Nat.reduceAdd, h18, h19, h20] at hK ⊢
                    go_simp
                    exact hK.out _ _ rfl (Below.refl _ _)
                  case o22 =>
                    intro vs W hw hd K hK
                    have h18 : vs 18 = .bool false := hd 18 (by kernel_rfl)
                    have h21 : vs 21 = .pointer (some ⟨gp, k, none⟩) := hd 21 (by kernel_rfl)
                    have c0 := HCell.out W hw
                    simp only [Nat.reduceAdd, h18, h21] at hK ⊢
                    go_simp
                    exact hK.out _ _ rfl (Below.refl _ _)
                  case o23 =>
                    intro vs W hw hd K hK
                    have h18 : vs 18 = .bool false := hd 18 (by kernel_rfl)
                    have h22 : vs 22 = .string sx := hd 22 (by kernel_rfl)
                    simp only [Nat.reduceAdd, h18, h22] at hK ⊢
                    go_simp
                    refine (cN.out W).mono ?_
                    rintro e W' ⟨rfl, hb'⟩
                    exact hK.out _ _ rfl hb'
                  case o24 =>
                    intro vs W hw hd K hK
                    have h18 : vs 18 = .bool false := hd 18 (by kernel_rfl)
                    have h23 : vs 23 = .string sn := hd 23 (by kernel_rfl)
                    simp only [Nat.reduceAdd, h18, h23] at hK ⊢
                    go_simp
                    exact hK.out _ _ rfl (Below.refl _ _)
                  case o25 =>
                    intro vs W hw hd K hK
                    have h18 : vs 18 = .bool false := hd 18 (by kernel_rfl)
                    have h24 : vs 24 = .bool false := hd 24 (by kernel_rfl)
                    simp only [Nat.reduceAdd, h18, h24] at hK ⊢
                    go_simp
                    exact hK.out _ _ rfl (Below.refl _ _)
                  case o26 =>
                    intro vs W hw hd K hK
                    have h25 : vs 25 = .bool false := hd 25 (by kernel_rfl)
                    simp only [Nat.reduceAdd, h25] at hK ⊢
                    go_simp
                    exact hK.out _ _ rfl (Below.refl _ _)
                  case o27 =>
                    intro vs W hw hd K hK
                    have h26 : vs 26 = .bool false := hd 26 (by kernel_rfl)
                    simp only [Nat.reduceAdd, h26] at hK ⊢
                    go_simp
                    exact hK.out _ _ rfl (Below.refl _ _)
                  case o28 =>
                    intro vs W hw hd K hK
                    have h26 : vs 26 = .bool false := hd 26 (by kernel_rfl)
                    have h27 : vs 27 = .pointer (some ⟨w.heap.size, 1, none⟩) := hd 27 (by kernel_rfl)
                    have c1 := HBk.out W hw
                    simp only [Nat.reduceAdd, h26, h27] at hK ⊢
                    go_simp
                    exact hK.out _ _ rfl (Below.refl _ _)
                  case o29 =>
                    intro vs W hw hd K hK
                    have h26 : vs 26 = .bool false := hd 26 (by kernel_rfl)
                    have h28 : vs 28 = .int .i64 kd := hd 28 (by kernel_rfl)
                    simp only [Nat.reduceAdd, h26, h28] at hK ⊢
                    go_simp
                    exact hK.out _ _ rfl (Below.refl _ _)
                  case o30 =>
                    intro vs W hw hd K hK
                    have h26 : vs 26 = .bool false := hd 26 (by kernel_rfl)
                    have h29 : vs 29 = .bool true := hd 29 (by kernel_rfl)
                    simp only [Nat.reduceAdd, h26, h29] at hK ⊢
                    go_simp
                    exact hK.out _ _ rfl (Below.refl _ _)
                  case o31 =>
                    intro vs W hw hd K hK
                    have h30 : vs 30 = .bool true := hd 30 (by kernel_rfl)
                    simp only [Nat.reduceAdd, h30] at hK ⊢
                    go_simp
                    exact hK.out _ _ rfl (Below.refl _ _)
                  case o32 =>
                    intro vs W hw hd K hK
                    have h30 : vs 30 = .bool true := hd 30 (by kernel_rfl)
                    simp only [Nat.reduceAdd, h30] at hK ⊢
                    go_simp
                    exact hK.out _ _ rfl (Below.refl _ _)
                  case o33 =>
                    intro vs W hw hd K hK
                    have h30 : vs 30 = .bool true := hd 30 (by kernel_rfl)
                    have h31 : vs 31 = .slice (some ⟨gp, 0, none⟩) n cpp := hd 31 (by kernel_rfl)
                    have h32 : vs 32 = .int .i64 (k : Int) := hd 32 (by kernel_rfl)
                    simp only [Nat.reduceAdd, h30, h31, h32] at hK ⊢
                    go_simp
                    exact hK.out _ _ rfl (Below.refl _ _)
                  case o34 =>
                    intro vs W hw hd K hK
                    have h30 : vs 30 = .bool true := hd 30 (by kernel_rfl)
                    have h33 : vs 33 = .pointer (some ⟨gp, k, none⟩) := hd 33 (by kernel_rfl)
                    have c0 := HCell.out W hw
                    simp only [Nat.reduceAdd, h30, h33] at hK ⊢
                    go_simp
                    exact hK.out _ _ rfl (Below.refl _ _)
                  case o35 =>
                    intro vs W hw hd K hK
                    have h30 : vs 30 = .bool true := hd 30 (by kernel_rfl)
                    have h34 : vs 34 = .string sx := hd 34 (by kernel_rfl)
                    simp only [Nat.reduceAdd, h30, h34] at hK ⊢
                    go_simp
                    refine (cP.out W).mono ?_
                    rintro e W' ⟨v, rfl, hr', hb'⟩
                    exact hK.out _ _ hr'.bl hb'
                  case o36 =>
                    intro vs W hw hd K hK
                    have h30 : vs 30 = .bool true := hd 30 (by kernel_rfl)
                    have h35 : BL (vs 35) PX W := hd 35 (by kernel_rfl)
                    simp only [Nat.reduceAdd, h30] at hK ⊢
                    go_simp
                    refine (cJ.out (vs 35) W h35).mono ?_
                    rintro e W' ⟨rfl, hW'⟩
                    rw [hW']
                    exact hK.out _ _ rfl (Below.refl _ _)
                  case o37 =>
                    intro vs W hw hd K hK
                    have h30 : vs 30 = .bool true := hd 30 (by kernel_rfl)
                    simp only [Nat.reduceAdd, h30] at hK ⊢
                    go_simp
                    exact hK.out _ _ rfl (Below.refl _ _)
                  case o38 =>
                    intro vs W hw hd K hK
                    have h30 : vs 30 = .bool true := hd 30 (by kernel_rfl)
                    simp only [Nat.reduceAdd, h30] at hK ⊢
                    go_simp
                    exact hK.out _ _ rfl (Below.refl _ _)
                  case o39 =>
                    intro vs W hw hd K hK
                    have h30 : vs 30 = .bool true := hd 30 (by kernel_rfl)
                    have h37 : vs 37 = .slice (some ⟨gp, 0, none⟩) n cpp := hd 37 (by kernel_rfl)
                    have h38 : vs 38 = .int .i64 (k : Int) := hd 38 (by kernel_rfl)
                    simp only [Nat.reduceAdd, h30, h37, h38] at hK ⊢
                    go_simp
                    exact hK.out _ _ rfl (Below.refl _ _)
                  case o40 =>
                    intro vs W hw hd K hK
                    have h30 : vs 30 = .bool true := hd 30 (by kernel_rfl)
                    have h39 : vs 39 = .pointer (some ⟨gp, k, none⟩) := hd 39 (by kernel_rfl)
                    have c0 := HCell.out W hw
                    simp only [Nat.reduceAdd, h30, h39] at hK ⊢
                    go_simp
                    exact hK.out _ _ rfl (Below.refl _ _)
                  case o41 =>
                    intro vs W hw hd K hK
                    have h30 : vs 30 = .bool true := hd 30 (by kernel_rfl)
                    have h36 : vs 36 = .string sj := hd 36 (by kernel_rfl)
                    have h40 : vs 40 = .string sx := hd 40 (by kernel_rfl)
                    simp only [Nat.reduceAdd, h30, h36, h40] at hK ⊢
                    go_simp
                    exact hK.out _ _ rfl (Below.refl _ _)
                  case o42 =>
                    intro vs W hw hd K hK
                    have h26 : vs 26 = .bool false := hd 26 (by kernel_rfl)
                    have h30 : vs 30 = .bool true := hd 30 (by kernel_rfl)
                    have h41 : vs 41 = .bool jb := hd 41 (by kernel_rfl)
                    simp only [Nat.reduceAdd, h26, h30, h41] at hK ⊢
                    go_simp
                    exact hK.out _ _ rfl (Below.refl _ _)
                  case o43 =>
                    intro vs W hw hd K hK
                    have h26 : vs 26 = .bool false := hd 26 (by kernel_rfl)
                    have h42 : vs 42 = .bool jb := hd 42 (by kernel_rfl)
                    simp only [Nat.reduceAdd, h26, h42] at hK ⊢
                    go_simp
                    exact hK.out _ _ rfl (Below.refl _ _)
                case hfin =>
                  intro vs W hw hd
                  have h43 : vs 43 = .bool jb := hd 43 (by decide)
                  simp only [Nat.reduceAdd, h43]
                  go_wp2_with fail
                  go_meet
                  exact ⟨rfl, hw⟩
              · rw [decide_eq_false hk3, Bool.false_and] at hbad
                subst hbad
                have k3 : (kd == 3) = false := by simpa using hk3
                have k3d : decide (kd = 3) = false := decide_eq_false hk3
                clear hk3 hq2 cP cJ
                generalize S x = sx at *
                generalize S y = sy at *
                generalize S z = sn at *
                apply wp_region_inv (V := [.eq (.slice (some ⟨gp, 0, none⟩) n cpp), .eq (.int .i64 (k : Int)), .eq (.pointer (some ⟨gp, k, none⟩)), .eq (.string sx), .eq (.bool true), .eq (.bool false), .eq (.bool false), .eq (.slice (some ⟨gp, 0, none⟩) n cpp), .eq (.int .i64 (k : Int)), .eq (.pointer (some ⟨gp, k, none⟩)), .eq (.string sx), .eq (.string sy), .eq (.slice (some ⟨gp, 0, none⟩) n cpp), .eq (.int .i64 (k : Int)), .eq (.pointer (some ⟨gp, k, none⟩)), .eq (.string sx), .eq (.bool false), .eq (.bool false), .eq (.bool false), .eq (.slice (some ⟨gp, 0, none⟩) n cpp), .eq (.int .i64 (k : Int)), .eq (.pointer (some ⟨gp, k, none⟩)), .eq (.string sx), .eq (.string sn), .eq (.bool false), .eq (.bool false), .eq (.bool false), .eq (.pointer (some ⟨w.heap.size, 1, none⟩)), .eq (.int .i64 kd), .eq (.bool false), .eq (.bool false), .any, .any, .any, .any, .any, .any, .any, .any, .any, .any, .any, .eq (.bool false), .eq (.bool false)])
                case hm => kernel_rfl
                case hd => kernel_rfl
                case hb => kernel_rfl
                case hA =>
                  intro vs
                  simp only [puts, Act.put, List.setIfInBounds_toArray, List.set_cons_zero, List.set_cons_succ]
                  exact rfl
                case hob =>
                  refine Obs.cons _ _ _ _ _ _ ?o0 (Obs.cons _ _ _ _ _ _ ?o1 (Obs.cons _ _ _ _ _ _ ?o2 (Obs.cons _ _ _ _ _ _ ?o3 (Obs.cons _ _ _ _ _ _ ?o4 (Obs.cons _ _ _ _ _ _ ?o5 (Obs.cons _ _ _ _ _ _ ?o6 (Obs.cons _ _ _ _ _ _ ?o7 (Obs.cons _ _ _ _ _ _ ?o8 (Obs.cons _ _ _ _ _ _ ?o9 (Obs.cons _ _ _ _ _ _ ?o10 (Obs.cons _ _ _ _ _ _ ?o11 (Obs.cons _ _ _ _ _ _ ?o12 (Obs.cons _ _ _ _ _ _ ?o13 (Obs.cons _ _ _ _ _ _ ?o14 (Obs.cons _ _ _ _ _ _ ?o15 (Obs.cons _ _ _ _ _ _ ?o16 (Obs.cons _ _ _ _ _ _ ?o17 (Obs.cons _ _ _ _ _ _ ?o18 (Obs.cons _ _ _ _ _ _ ?o19 (Obs.cons _ _ _ _ _ _ ?o20 (Obs.cons _ _ _ _ _ _ ?o21 (Obs.cons _ _ _ _ _ _ ?o22 (Obs.cons _ _ _ _ _ _ ?o23 (Obs.cons _ _ _ _ _ _ ?o24 (Obs.cons _ _ _ _ _ _ ?o25 (Obs.cons _ _ _ _ _ _ ?o26 (Obs.cons _ _ _ _ _ _ ?o27 (Obs.cons _ _ _ _ _ _ ?o28 (Obs.cons _ _ _ _ _ _ ?o29 (Obs.cons _ _ _ _ _ _ ?o30 (Obs.cons _ _ _ _ _ _ ?o31 (Obs.cons _ _ _ _ _ _ ?o32 (Obs.cons _ _ _ _ _ _ ?o33 (Obs.cons _ _ _ _ _ _ ?o34 (Obs.cons _ _ _ _ _ _ ?o35 (Obs.cons _ _ _ _ _ _ ?o36 (Obs.cons _ _ _ _ _ _ ?o37 (Obs.cons _ _ _ _ _ _ ?o38 (Obs.cons _ _ _ _ _ _ ?o39 (Obs.cons _ _ _ _ _ _ ?o40 (Obs.cons _ _ _ _ _ _ ?o41 (Obs.cons _ _ _ _ _ _ ?o42 (Obs.cons _ _ _ _ _ _ ?o43 (Obs.nil _ _ _ _ _ _))))))))))))))))))))))))))))))))))))))))))))
                  case o0 =>
                    intro vs W hw hd K hK
                    go_simp
                    exact hK.out _ _ rfl (Below.refl _ _)
                  case o1 =>
                    intro vs W hw hd K hK
                    go_simp
                    exact hK.out _ _ rfl (Below.refl _ _)
                  case o2 =>
                    intro vs W hw hd K hK
                    have h0 : vs 0 = .slice (some ⟨gp, 0, none⟩) n cpp := hd 0 (by kernel_rfl)
                    have h1 : vs 1 = .int .i64 (k : Int) := hd 1 (by kernel_rfl)
                    simp only [Nat.reduceAdd, h0, h1] at hK ⊢
                    go_simp
                    exact hK.out _ _ rfl (Below.refl _ _)
                  case o3 =>
                    intro vs W hw hd K hK
                    have h2 : vs 2 = .pointer (some ⟨gp, k, none⟩) := hd 2 (by kernel_rfl)
                    have c0 := HCell.out W hw
                    simp only [Nat.reduceAdd, h2] at hK ⊢
                    go_simp
                    exact hK.out _ _ rfl (Below.refl _ _)
                  case o4 =>
                    intro vs W hw hd K hK
                    have h3 : vs 3 = .string sx := hd 3 (by kernel_rfl)
                    simp only [Nat.reduceAdd, h3] at hK ⊢
                    go_simp
                    refine (cV.out W).mono ?_
                    rintro e W' ⟨rfl, hb'⟩
                    exact hK.out _ _ rfl hb'
                  case o5 =>
                    intro vs W hw hd K hK
                    have h4 : vs 4 = .bool true := hd 4 (by kernel_rfl)
                    simp only [Nat.reduceAdd, h4] at hK ⊢
                    go_simp
                    exact hK.out _ _ rfl (Below.refl _ _)
                  case o6 =>
                    intro vs W hw hd K hK
                    have h5 : vs 5 = .bool false := hd 5 (by kernel_rfl)
                    simp only [Nat.reduceAdd, h5] at hK ⊢
                    go_simp
                    exact hK.out _ _ rfl (Below.refl _ _)
                  case o7 =>
                    intro vs W hw hd K hK
                    have h6 : vs 6 = .bool false := hd 6 (by kernel_rfl)
                    simp only [Nat.reduceAdd, h6] at hK ⊢
                    go_simp
                    exact hK.out _ _ rfl (Below.refl _ _)
                  case o8 =>
                    intro vs W hw hd K hK
                    have h6 : vs 6 = .bool false := hd 6 (by kernel_rfl)
                    simp only [Nat.reduceAdd, h6] at hK ⊢
                    go_simp
                    exact hK.out _ _ rfl (Below.refl _ _)
                  case o9 =>
                    intro vs W hw hd K hK
                    have h6 : vs 6 = .bool false := hd 6 (by kernel_rfl)
                    have h7 : vs 7 = .slice (some ⟨gp, 0, none⟩) n cpp := hd 7 (by kernel_rfl)
                    have h8 : vs 8 = .int .i64 (k : Int) := hd 8 (by kernel_rfl)
                    simp only [Nat.reduceAdd, h6, h7, h8] at hK ⊢
                    go_simp
                    exact hK.out _ _ rfl (Below.refl _ _)
                  case o10 =>
                    intro vs W hw hd K hK
                    have h6 : vs 6 = .bool false := hd 6 (by kernel_rfl)
                    have h9 : vs 9 = .pointer (some ⟨gp, k, none⟩) := hd 9 (by kernel_rfl)
                    have c0 := HCell.out W hw
                    simp only [Nat.reduceAdd, h6, h9] at hK ⊢
                    go_simp
                    exact hK.out _ _ rfl (Below.refl _ _)
                  case o11 =>
                    intro vs W hw hd K hK
                    have h6 : vs 6 = .bool false := hd 6 (by kernel_rfl)
                    have h10 : vs 10 = .string sx := hd 10 (by kernel_rfl)
                    simp only [Nat.reduceAdd, h6, h10] at hK ⊢
                    go_simp
                    refine (cC.out W).mono ?_
                    rintro e W' ⟨rfl, hb'⟩
                    exact hK.out _ _ rfl hb'
                  case o12 =>
                    intro vs W hw hd K hK
                    have h6 : vs 6 = .bool false := hd 6 (by kernel_rfl)
                    simp only [Nat.reduceAdd, h6] at hK ⊢
                    go_simp
                    exact hK.out _ _ rfl (Below.refl _ _)
                  case o13 =>
                    intro vs W hw hd K hK
                    have h6 : vs 6 = .bool false := hd 6 (by kernel_rfl)
                    simp only [Nat.reduceAdd, h6] at hK ⊢
                    go_simp
                    exact hK.out _ _ rfl (Below.refl _ _)
                  case o14 =>
                    intro vs W hw hd K hK
                    have h6 : vs 6 = .bool false := hd 6 (by kernel_rfl)
                    have h12 : vs 12 = .slice (some ⟨gp, 0, none⟩) n cpp := hd 12 (by kernel_rfl)
                    have h13 : vs 13 = .int .i64 (k : Int) := hd 13 (by kernel_rfl)
                    simp only [Nat.reduceAdd, h6, h12, h13] at hK ⊢
                    go_simp
                    exact hK.out _ _ rfl (Below.refl _ _)
                  case o15 =>
                    intro vs W hw hd K hK
                    have h6 : vs 6 = .bool false := hd 6 (by kernel_rfl)
                    have h14 : vs 14 = .pointer (some ⟨gp, k, none⟩) := hd 14 (by kernel_rfl)
                    have c0 := HCell.out W hw
                    simp only [Nat.reduceAdd, h6, h14] at hK ⊢
                    go_simp
                    exact hK.out _ _ rfl (Below.refl _ _)
                  case o16 =>
                    intro vs W hw hd K hK
                    have h6 : vs 6 = .bool false := hd 6 (by kernel_rfl)
                    have h11 : vs 11 = .string sy := hd 11 (by kernel_rfl)
                    have h15 : vs 15 = .string sx := hd 15 (by kernel_rfl)
                    simp only [Nat.reduceAdd, h6, h11, h15] at hK ⊢
                    go_simp
                    exact hK.out _ _ rfl (Below.refl _ _)
                  case o17 =>
                    intro vs W hw hd K hK
                    have h6 : vs 6 = .bool false := hd 6 (by kernel_rfl)
                    have h16 : vs 16 = .bool false := hd 16 (by kernel_rfl)
                    simp only [Nat.reduceAdd, h6, h16] at hK ⊢
                    go_simp
                    exact hK.out _ _ rfl (Below.refl _ _)
                  case o18 =>
                    intro vs W hw hd K hK
                    have h17 : vs 17 = .bool false := hd 17 (by kernel_rfl)
                    simp only [Nat.reduceAdd, h17] at hK ⊢
                    go_simp
                    exact hK.out _ _ rfl (Below.refl _ _)
                  case o19 =>
                    intro vs W hw hd K hK
                    have h18 : vs 18 = .bool false := hd 18 (by kernel_rfl)
                    simp only [Nat.reduceAdd, h18] at hK ⊢
                    go_simp
                    exact hK.out _ _ rfl (Below.refl _ _)
                  case o20 =>
                    intro vs W hw hd K hK
                    have h18 : vs 18 = .bool false := hd 18 (by kernel_rfl)
                    simp only [Nat.reduceAdd, h18] at hK ⊢
                    go_simp
                    exact hK.out _ _ rfl (Below.refl _ _)
                  case o21 =>
                    intro vs W hw hd K hK
                    have h18 : vs 18 = .bool false := hd 18 (by kernel_rfl)
                    have h19 : vs 19 = .slice (some ⟨gp, 0, none⟩) n cpp := hd 19 (by kernel_rfl)
                    have h20 : vs 20 = .int .i64 (k : Int) := hd 20 (by kernel_rfl)
                    simp only [Nat.reduceAdd, h18, h19, h20] at hK ⊢
                    go_simp
                    exact hK.out _ _ rfl (Below.refl _ _)
                  case o22 =>
                    intro vs W hw hd K hK
                    have h18 : vs 18 = .bool false := hd 18 (by kernel_rfl)
                    have h21 : vs 21 = .pointer (some ⟨gp, k, none⟩) := hd 21 (by kernel_rfl)
                    have c0 := HCell.out W hw
                    simp only [Nat.reduceAdd, h18, h21] at hK ⊢
                    go_simp
                    exact hK.out _ _ rfl (Below.refl _ _)
                  case o23 =>
                    intro vs W hw hd K hK
                    have h18 : vs 18 = .bool false := hd 18 (by kernel_rfl)
                    have h22 : vs 22 = .string sx := hd 22 (by kernel_rfl)
                    simp only [Nat.reduceAdd, h18, h22] at hK ⊢
                    go_simp
                    refine (cN.out W).mono ?_
                    rintro e W' ⟨rfl, hb'⟩
                    exact hK.out _ _ rfl hb'
                  case o24 =>
                    intro vs W hw hd K hK
                    have h18 : vs 18 = .bool false := hd 18 (by kernel_rfl)
                    have h23 : vs 23 = .string sn := hd 23 (by kernel_rfl)
                    simp only [Nat.reduceAdd, h18, h23] at hK ⊢
                    go_simp
                    exact hK.out _ _ rfl (Below.refl _ _)
                  case o25 =>
                    intro vs W hw hd K hK
                    have h18 : vs 18 = .bool false := hd 18 (by kernel_rfl)
                    have h24 : vs 24 = .bool false := hd 24 (by kernel_rfl)
                    simp only [Nat.reduceAdd, h18, h24] at hK ⊢
                    go_simp
                    exact hK.out _ _ rfl (Below.refl _ _)
                  case o26 =>
                    intro vs W hw hd K hK
                    have h25 : vs 25 = .bool false := hd 25 (by kernel_rfl)
                    simp only [Nat.reduceAdd, h25] at hK ⊢
                    go_simp
                    exact hK.out _ _ rfl (Below.refl _ _)
                  case o27 =>
                    intro vs W hw hd K hK
                    have h26 : vs 26 = .bool false := hd 26 (by kernel_rfl)
                    simp only [Nat.reduceAdd, h26] at hK ⊢
                    go_simp
                    exact hK.out _ _ rfl (Below.refl _ _)
                  case o28 =>
                    intro vs W hw hd K hK
                    have h26 : vs 26 = .bool false := hd 26 (by kernel_rfl)
                    have h27 : vs 27 = .pointer (some ⟨w.heap.size, 1, none⟩) := hd 27 (by kernel_rfl)
                    have c1 := HBk.out W hw
                    simp only [Nat.reduceAdd, h26, h27] at hK ⊢
                    go_simp
                    exact hK.out _ _ rfl (Below.refl _ _)
                  case o29 =>
                    intro vs W hw hd K hK
                    have h26 : vs 26 = .bool false := hd 26 (by kernel_rfl)
                    have h28 : vs 28 = .int .i64 kd := hd 28 (by kernel_rfl)
                    simp only [Nat.reduceAdd, h26, h28] at hK ⊢
                    go_simp
                    exact hK.out _ _ rfl (Below.refl _ _)
                  case o30 =>
                    intro vs W hw hd K hK
                    have h26 : vs 26 = .bool false := hd 26 (by kernel_rfl)
                    have h29 : vs 29 = .bool false := hd 29 (by kernel_rfl)
                    simp only [Nat.reduceAdd, h26, h29] at hK ⊢
                    go_simp
                    exact hK.out _ _ rfl (Below.refl _ _)
                  case o31 =>
                    intro vs W hw hd K hK
                    have h30 : vs 30 = .bool false := hd 30 (by kernel_rfl)
                    simp only [Nat.reduceAdd, h30] at hK ⊢
                    go_simp
                    exact hK.out _ _ trivial (Below.refl _ _)
                  case o32 =>
                    intro vs W hw hd K hK
                    have h30 : vs 30 = .bool false := hd 30 (by kernel_rfl)
                    simp only [Nat.reduceAdd, h30] at hK ⊢
                    go_simp
                    exact hK.out _ _ trivial (Below.refl _ _)
                  case o33 =>
                    intro vs W hw hd K hK
                    have h30 : vs 30 = .bool false := hd 30 (by kernel_rfl)
                    simp only [Nat.reduceAdd, h30] at hK ⊢
                    go_simp
                    exact hK.out _ _ trivial (Below.refl _ _)
                  case o34 =>
                    intro vs W hw hd K hK
                    have h30 : vs 30 = .bool false := hd 30 (by kernel_rfl)
                    simp only [Nat.reduceAdd, h30] at hK ⊢
                    go_simp
                    exact hK.out _ _ trivial (Below.refl _ _)
                  case o35 =>
                    intro vs W hw hd K hK
                    have h30 : vs 30 = .bool false := hd 30 (by kernel_rfl)
                    simp only [Nat.reduceAdd, h30] at hK ⊢
                    go_simp
                    exact hK.out _ _ trivial (Below.refl _ _)
                  case o36 =>
                    intro vs W hw hd K hK
                    have h30 : vs 30 = .bool false := hd 30 (by kernel_rfl)
                    simp only [Nat.reduceAdd, h30] at hK ⊢
                    go_simp
                    exact hK.out _ _ trivial (Below.refl _ _)
                  case o37 =>
                    intro vs W hw hd K hK
                    have h30 : vs 30 = .bool false := hd 30 (by kernel_rfl)
                    simp only [Nat.reduceAdd, h30] at hK ⊢
                    go_simp
                    exact hK.out _ _ trivial (Below.refl _ _)
                  case o38 =>
                    intro vs W hw hd K hK
                    have h30 : vs 30 = .bool false := hd 30 (by kernel_rfl)
                    simp only [Nat.reduceAdd, h30] at hK ⊢
                    go_simp
                    exact hK.out _ _ trivial (Below.refl _ _)
                  case o39 =>
                    intro vs W hw hd K hK
                    have h30 : vs 30 = .bool false := hd 30 (by kernel_rfl)
                    simp only [Nat.reduceAdd, h30] at hK ⊢
                    go_simp
                    exact hK.out _ _ trivial (Below.refl _ _)
                  case o40 =>
                    intro vs W hw hd K hK
                    have h30 : vs 30 = .bool false := hd 30 (by kernel_rfl)
                    simp only [Nat.reduceAdd, h30] at hK ⊢
                    go_simp
                    exact hK.out _ _ trivial (Below.refl _ _)
                  case o41 =>
                    intro vs W hw hd K hK
                    have h30 : vs 30 = .bool false := hd 30 (by kernel_rfl)
                    simp only [Nat.reduceAdd, h30] at hK ⊢
                    go_simp
                    exact hK.out _ _ trivial (Below.refl _ _)
                  case o42 =>
                    intro vs W hw hd K hK
                    have h26 : vs 26 = .bool false := hd 26 (by kernel_rfl)
                    have h30 : vs 30 = .bool false := hd 30 (by kernel_rfl)
                    simp only [Nat.reduceAdd, h26, h30] at hK ⊢
                    go_simp
                    exact hK.out _ _ rfl (Below.refl _ _)
                  case o43 =>
                    intro vs W hw hd K hK
                    have h26 : vs 26 = .bool false := hd 26 (by kernel_rfl)
                    have h42 : vs 42 = .bool false := hd 42 (by kernel_rfl)
                    simp only [Nat.reduceAdd, h26, h42] at hK ⊢
                    go_simp
                    exact hK.out _ _ rfl (Below.refl _ _)
                case hfin =>
                  intro vs W hw hd
                  have h43 : vs 43 = .bool false := hd 43 (by decide)
                  simp only [Nat.reduceAdd, h43]
                  go_wp2_with fail
                  go_meet
                  exact ⟨rfl, hw⟩
          · rw [decide_eq_false hyx, Bool.not_false, Bool.true_or] at hbad
            subst hbad
            rw [decide_eq_false hyx] at hq
            clear hyx hq2 hsn cN cP cJ
            generalize S x = sx at *
            generalize S y = sy at *
            apply wp_region_inv (V := [.eq (.slice (some ⟨gp, 0, none⟩) n cpp), .eq (.int .i64 (k : Int)), .eq (.pointer (some ⟨gp, k, none⟩)), .eq (.string sx), .eq (.bool true), .eq (.bool false), .eq (.bool false), .eq (.slice (some ⟨gp, 0, none⟩) n cpp), .eq (.int .i64 (k : Int)), .eq (.pointer (some ⟨gp, k, none⟩)), .eq (.string sx), .eq (.string sy), .eq (.slice (some ⟨gp, 0, none⟩) n cpp), .eq (.int .i64 (k : Int)), .eq (.pointer (some ⟨gp, k, none⟩)), .eq (.string sx), .eq (.bool true), .eq (.bool true), .eq (.bool true), .any, .any, .any, .any, .any, .any, .eq (.bool true), .eq (.bool true), .any, .any, .any, .eq (undef), .any, .any, .any, .any, .any, .any, .any, .any, .any, .any, .any, .any, .eq (.bool true)])
            case hm => kernel_rfl
            case hd => kernel_rfl
            case hb => kernel_rfl
            case hA =>
              intro vs
              simp only [puts, Act.put, List.setIfInBounds_toArray, List.set_cons_zero, List.set_cons_succ]
              exact rfl
            case hob =>
              refine Obs.cons _ _ _ _ _ _ ?o0 (Obs.cons _ _ _ _ _ _ ?o1 (Obs.cons _ _ _ _ _ _ ?o2 (Obs.cons _ _ _ _ _ _ ?o3 (Obs.cons _ _ _ _ _ _ ?o4 (Obs.cons _ _ _ _ _ _ ?o5 (Obs.cons _ _ _ _ _ _ ?o6 (Obs.cons _ _ _ _ _ _ ?o7 (Obs.cons _ _ _ _ _ _ ?o8 (Obs.cons _ _ _ _ _ _ ?o9 (Obs.cons _ _ _ _ _ _ ?o10 (Obs.cons _ _ _ _ _ _ ?o11 (Obs.cons _ _ _ _ _ _ ?o12 (Obs.cons _ _ _ _ _ _ ?o13 (Obs.cons _ _ _ _ _ _ ?o14 (Obs.cons _ _ _ _ _ _ ?o15 (Obs.cons _ _ _ _ _ _ ?o16 (Obs.cons _ _ _ _ _ _ ?o17 (Obs.cons _ _ _ _ _ _ ?o18 (Obs.cons _ _ _ _ _ _ ?o19 (Obs.cons _ _ _ _ _ _ ?o20 (Obs.cons _ _ _ _ _ _ ?o21 (Obs.cons _ _ _ _ _ _ ?o22 (Obs.cons _ _ _ _ _ _ ?o23 (Obs.cons _ _ _ _ _ _ ?o24 (Obs.cons _ _ _ _ _ _ ?o25 (Obs.cons _ _ _ _ _ _ ?o26 (Obs.cons _ _ _ _ _ _ ?o27 (Obs.cons _ _ _ _ _ _ ?o28 (Obs.cons _ _ _ _ _ _ ?o29 (Obs.cons _ _ _ _ _ _ ?o30 (Obs.cons _ _ _ _ _ _ ?o31 (Obs.cons _ _ _ _ _ _ ?o32 (Obs.cons _ _ _ _ _ _ ?o33 (Obs.cons _ _ _ _ _ _ ?o34 (Obs.cons _ _ _ _ _ _ ?o35 (Obs.cons _ _ _ _ _ _ ?o36 (Obs.cons _ _ _ _ _ _ ?o37 (Obs.cons _ _ _ _ _ _ ?o38 (Obs.cons _ _ _ _ _ _ ?o39 (Obs.cons _ _ _ _ _ _ ?o40 (Obs.cons _ _ _ _ _ _ ?o41 (Obs.cons _ _ _ _ _ _ ?o42 (Obs.cons _ _ _ _ _ _ ?o43 (Obs.nil _ _ _ _ _ _))))))))))))))))))))))))))))))))))))))))))))
              case o0 =>
                intro vs W hw hd K hK
                go_simp
                exact hK.out _ _ rfl (Below.refl _ _)
              case o1 =>
                intro vs W hw hd K hK
                go_simp
                exact hK.out _ _ rfl (Below.refl _ _)
              case o2 =>
                intro vs W hw hd K hK
                have h0 : vs 0 = .slice (some ⟨gp, 0, none⟩) n cpp := hd 0 (by kernel_rfl)
                have h1 : vs 1 = .int .i64 (k : Int) := hd 1 (by kernel_rfl)
                simp only [Nat.reduceAdd, h0, h1] at hK ⊢
                go_simp
                exact hK.out _ _ rfl (Below.refl _ _)
              case o3 =>
                intro vs W hw hd K hK
                have h2 : vs 2 = .pointer (some ⟨gp, k, none⟩) := hd 2 (by kernel_rfl)
                have c0 := HCell.out W hw
                simp only [Nat.reduceAdd, h2] at hK ⊢
                go_simp
                exact hK.out _ _ rfl (Below.refl _ _)
              case o4 =>
                intro vs W hw hd K hK
                have h3 : vs 3 = .string sx := hd 3 (by kernel_rfl)
                simp only [Nat.reduceAdd, h3] at hK ⊢
                go_simp
                refine (cV.out W).mono ?_
                rintro e W' ⟨rfl, hb'⟩
                exact hK.out _ _ rfl hb'
              case o5 =>
                intro vs W hw hd K hK
                have h4 : vs 4 = .bool true := hd 4 (by kernel_rfl)
                simp only [Nat.reduceAdd, h4] at hK ⊢
                go_simp
                exact hK.out _ _ rfl (Below.refl _ _)
              case o6 =>
                intro vs W hw hd K hK
                have h5 : vs 5 = .bool false := hd 5 (by kernel_rfl)
                simp only [Nat.reduceAdd, h5] at hK ⊢
                go_simp
                exact hK.out _ _ rfl (Below.refl _ _)
              case o7 =>
                intro vs W hw hd K hK
                have h6 : vs 6 = .bool false := hd 6 (by kernel_rfl)
                simp only [Nat.reduceAdd, h6] at hK ⊢
                go_simp
                exact hK.out _ _ rfl (Below.refl _ _)
              case o8 =>
                intro vs W hw hd K hK
                have h6 : vs 6 = .bool false := hd 6 (by kernel_rfl)
                simp only [Nat.reduceAdd, h6] at hK ⊢
                go_simp
                exact hK.out _ _ rfl (Below.refl _ _)
              case o9 =>
                intro vs W hw hd K hK
                have h6 : vs 6 = .bool false := hd 6 (by kernel_rfl)
                have h7 : vs 7 = .slice (some ⟨gp, 0, none⟩) n cpp := hd 7 (by kernel_rfl)
                have h8 : vs 8 = .int .i64 (k : Int) := hd 8 (by kernel_rfl)
                simp only [Nat.reduceAdd, h6, h7, h8] at hK ⊢
                go_simp
                exact hK.out _ _ rfl (Below.refl _ _)
              case o10 =>
                intro vs W hw hd K hK
                have h6 : vs 6 = .bool false := hd 6 (by kernel_rfl)
                have h9 : vs 9 = .pointer (some ⟨gp, k, none⟩) := hd 9 (by kernel_rfl)
                have c0 := HCell.out W hw
                simp only [Nat.reduceAdd, h6, h9] at hK ⊢
                go_simp
                exact hK.out _ _ rfl (Below.refl _ _)
              case o11 =>
                intro vs W hw hd K hK
                have h6 : vs 6 = .bool false := hd 6 (by kernel_rfl)
                have h10 : vs 10 = .string sx := hd 10 (by kernel_rfl)
                simp only [Nat.reduceAdd, h6, h10] at hK ⊢
                go_simp
                refine (cC.out W).mono ?_
                rintro e W' ⟨rfl, hb'⟩
                exact hK.out _ _ rfl hb'
              case o12 =>
                intro vs W hw hd K hK
                have h6 : vs 6 = .bool false := hd 6 (by kernel_rfl)
                simp only [Nat.reduceAdd, h6] at hK ⊢
                go_simp
                exact hK.out _ _ rfl (Below.refl _ _)
              case o13 =>
                intro vs W hw hd K hK
                have h6 : vs 6 = .bool false := hd 6 (by kernel_rfl)
                simp only [Nat.reduceAdd, h6] at hK ⊢
                go_simp
                exact hK.out _ _ rfl (Below.refl _ _)
              case o14 =>
                intro vs W hw hd K hK
                have h6 : vs 6 = .bool false := hd 6 (by kernel_rfl)
                have h12 : vs 12 = .slice (some ⟨gp, 0, none⟩) n cpp := hd 12 (by kernel_rfl)
                have h13 : vs 13 = .int .i64 (k : Int) := hd 13 (by kernel_rfl)
                simp only [Nat.reduceAdd, h6, h12, h13] at hK ⊢
                go_simp
                exact hK.out _ _ rfl (Below.refl _ _)
              case o15 =>
                intro vs W hw hd K hK
                have h6 : vs 6 = .bool false := hd 6 (by kernel_rfl)
                have h14 : vs 14 = .pointer (some ⟨gp, k, none⟩) := hd 14 (by kernel_rfl)
                have c0 := HCell.out W hw
                simp only [Nat.reduceAdd, h6, h14] at hK ⊢
                go_simp
                exact hK.out _ _ rfl (Below.refl _ _)
              case o16 =>
                intro vs W hw hd K hK
                have h6 : vs 6 = .bool false := hd 6 (by kernel_rfl)
                have h11 : vs 11 = .string sy := hd 11 (by kernel_rfl)
                have h15 : vs 15 = .string sx := hd 15 (by kernel_rfl)
                simp only [Nat.reduceAdd, h6, h11, h15] at hK ⊢
                go_simp
                exact hK.out _ _ rfl (Below.refl _ _)
              case o17 =>
                intro vs W hw hd K hK
                have h6 : vs 6 = .bool false := hd 6 (by kernel_rfl)
                have h16 : vs 16 = .bool true := hd 16 (by kernel_rfl)
                simp only [Nat.reduceAdd, h6, h16] at hK ⊢
                go_simp
                exact hK.out _ _ rfl (Below.refl _ _)
              case o18 =>
                intro vs W hw hd K hK
                have h17 : vs 17 = .bool true := hd 17 (by kernel_rfl)
                simp only [Nat.reduceAdd, h17] at hK ⊢
                go_simp
                exact hK.out _ _ rfl (Below.refl _ _)
              case o19 =>
                intro vs W hw hd K hK
                have h18 : vs 18 = .bool true := hd 18 (by kernel_rfl)
                simp only [Nat.reduceAdd, h18] at hK ⊢
                go_simp
                exact hK.out _ _ trivial (Below.refl _ _)
              case o20 =>
                intro vs W hw hd K hK
                have h18 : vs 18 = .bool true := hd 18 (by kernel_rfl)
                simp only [Nat.reduceAdd, h18] at hK ⊢
                go_simp
                exact hK.out _ _ trivial (Below.refl _ _)
              case o21 =>
                intro vs W hw hd K hK
                have h18 : vs 18 = .bool true := hd 18 (by kernel_rfl)
                simp only [Nat.reduceAdd, h18] at hK ⊢
                go_simp
                exact hK.out _ _ trivial (Below.refl _ _)
              case o22 =>
                intro vs W hw hd K hK
                have h18 : vs 18 = .bool true := hd 18 (by kernel_rfl)
                simp only [Nat.reduceAdd, h18] at hK ⊢
                go_simp
                exact hK.out _ _ trivial (Below.refl _ _)
              case o23 =>
                intro vs W hw hd K hK
                have h18 : vs 18 = .bool true := hd 18 (by kernel_rfl)
                simp only [Nat.reduceAdd, h18] at hK ⊢
                go_simp
                exact hK.out _ _ trivial (Below.refl _ _)
              case o24 =>
                intro vs W hw hd K hK
                have h18 : vs 18 = .bool true := hd 18 (by kernel_rfl)
                simp only [Nat.reduceAdd, h18] at hK ⊢
                go_simp
                exact hK.out _ _ trivial (Below.refl _ _)
              case o25 =>
                intro vs W hw hd K hK
                have h18 : vs 18 = .bool true := hd 18 (by kernel_rfl)
                simp only [Nat.reduceAdd, h18] at hK ⊢
                go_simp
                exact hK.out _ _ rfl (Below.refl _ _)
              case o26 =>
                intro vs W hw hd K hK
                have h25 : vs 25 = .bool true := hd 25 (by kernel_rfl)
                simp only [Nat.reduceAdd, h25] at hK ⊢
                go_simp
                exact hK.out _ _ rfl (Below.refl _ _)
              case o27 =>
                intro vs W hw hd K hK
                have h26 : vs 26 = .bool true := hd 26 (by kernel_rfl)
                simp only [Nat.reduceAdd, h26] at hK ⊢
                go_simp
                exact hK.out _ _ trivial (Below.refl _ _)
              case o28 =>
                intro vs W hw hd K hK
                have h26 : vs 26 = .bool true := hd 26 (by kernel_rfl)
                simp only [Nat.reduceAdd, h26] at hK ⊢
                go_simp
                exact hK.out _ _ trivial (Below.refl _ _)
              case o29 =>
                intro vs W hw hd K hK
                have h26 : vs 26 = .bool true := hd 26 (by kernel_rfl)
                simp only [Nat.reduceAdd, h26] at hK ⊢
                go_simp
                exact hK.out _ _ trivial (Below.refl _ _)
              case o30 =>
                intro vs W hw hd K hK
                have h26 : vs 26 = .bool true := hd 26 (by kernel_rfl)
                simp only [Nat.reduceAdd, h26] at hK ⊢
                go_simp
                exact hK.out _ _ rfl (Below.refl _ _)
              case o31 =>
                intro vs W hw hd K hK
                have h30 : vs 30 = undef := hd 30 (by kernel_rfl)
                simp only [Nat.reduceAdd, h30] at hK ⊢
                go_simp
                exact hK.out _ _ trivial (Below.refl _ _)
              case o32 =>
                intro vs W hw hd K hK
                have h30 : vs 30 = undef := hd 30 (by kernel_rfl)
                simp only [Nat.reduceAdd, h30] at hK ⊢
                go_simp
                exact hK.out _ _ trivial (Below.refl _ _)
              case o33 =>
                intro vs W hw hd K hK
                have h30 : vs 30 = undef := hd 30 (by kernel_rfl)
                simp only [Nat.reduceAdd, h30] at hK ⊢
                go_simp
                exact hK.out _ _ trivial (Below.refl _ _)
              case o34 =>
                intro vs W hw hd K hK
                have h30 : vs 30 = undef := hd 30 (by kernel_rfl)
                simp only [Nat.reduceAdd, h30] at hK ⊢
                go_simp
                exact hK.out _ _ trivial (Below.refl _ _)
              case o35 =>
                intro vs W hw hd K hK
                have h30 : vs 30 = undef := hd 30 (by kernel_rfl)
                simp only [Nat.reduceAdd, h30] at hK ⊢
                go_simp
                exact hK.out _ _ trivial (Below.refl _ _)
              case o36 =>
                intro vs W hw hd K hK
                have h30 : vs 30 = undef := hd 30 (by kernel_rfl)
                simp only [Nat.reduceAdd, h30] at hK ⊢
                go_simp
                exact hK.out _ _ trivial (Below.refl _ _)
              case o37 =>
                intro vs W hw hd K hK
                have h30 : vs 30 = undef := hd 30 (by kernel_rfl)
                simp only [Nat.reduceAdd, h30] at hK ⊢
                go_simp
                exact hK.out _ _ trivial (Below.refl _ _)
              case o38 =>
                intro vs W hw hd K hK
                have h30 : vs 30 = undef := hd 30 (by kernel_rfl)
                simp only [Nat.reduceAdd, h30] at hK ⊢
                go_simp
                exact hK.out _ _ trivial (Below.refl _ _)
              case o39 =>
                intro vs W hw hd K hK
                have h30 : vs 30 = undef := hd 30 (by kernel_rfl)
                simp only [Nat.reduceAdd, h30] at hK ⊢
                go_simp
                exact hK.out _ _ trivial (Below.refl _ _)
              case o40 =>
                intro vs W hw hd K hK
                have h30 : vs 30 = undef := hd 30 (by kernel_rfl)
                simp only [Nat.reduceAdd, h30] at hK ⊢
                go_simp
                exact hK.out _ _ trivial (Below.refl _ _)
              case o41 =>
                intro vs W hw hd K hK
                have h30 : vs 30 = undef := hd 30 (by kernel_rfl)
                simp only [Nat.reduceAdd, h30] at hK ⊢
                go_simp
                exact hK.out _ _ trivial (Below.refl _ _)
              case o42 =>
                intro vs W hw hd K hK
                have h26 : vs 26 = .bool true := hd 26 (by kernel_rfl)
                simp only [Nat.reduceAdd, h26] at hK ⊢
                go_simp
                exact hK.out _ _ trivial (Below.refl _ _)
              case o43 =>
                intro vs W hw hd K hK
                have h26 : vs 26 = .bool true := hd 26 (by kernel_rfl)
                simp only [Nat.reduceAdd, h26] at hK ⊢
                go_simp
                exact hK.out _ _ rfl (Below.refl _ _)
            case hfin =>
              intro vs W hw hd
              have h43 : vs 43 = .bool true := hd 43 (by decide)
              simp only [Nat.reduceAdd, h43]
              go_wp2_with fail
              go_meet
              exact ⟨rfl, hw⟩
      case rest =>
        obtain ⟨rfl, hwx⟩ := hcut
        have c0 := HCell.out wc hwx
        have HBx := Lib.hid (HB.out.trans (hwx.mono HB.out.size))
        have BWx := Lib.hid (BW.out.trans (hwx.mono BW.out.size))
        clear hwx cV cC cN cJ hq hq2 hsn HBad HCell HBk
        cases res with
        | true =>
          have hno := HQ.out 3 (by
            have h := HHd3.out (by rw [HE.out, if_pos rfl]; decide)
            rw [HE.out, if_pos rfl] at h
            exact h) wc BWx.out
          clear HHd3 HJ2 HE HV2 HPl cP c0
          go_wp2
          first | exact hno | (go_ret; exact hno)
        | false =>
          have cP0 := Lib.hid (cP.out (HV2.out (by simp)) wc)
          have hE0 : hdE kd x = if 200 < lx ∨ 4 < PX.length then 4 else 0 := by
            have h := HE.out
            rw [if_neg (by decide)] at h
            exact h
          have HE0 := Lib.hid hE0
          clear cP HE hE0 HV2 HPl
          generalize S x = sx at *
          by_cases h2 : 200 < lx
          · have t2 : decide ((200 : Int) < (lx : Int)) = true := decide_eq_true (by omega)
            have t2n : decide (200 < lx) = true := decide_eq_true h2
            have hno := HQ.out 4 (by
              have h := HHd3.out (by rw [HE0.out, if_pos (.inl h2)]; decide)
              rw [HE0.out, if_pos (.inl h2)] at h
              exact h) wc BWx.out
            clear HHd3 HJ2 HE0 cP0 h2
            go_wp2
            first | exact hno | (go_ret; exact hno)
          · have t2 : decide ((200 : Int) < (lx : Int)) = false := decide_eq_false (by omega)
            have t2n : decide (200 < lx) = false := decide_eq_false h2
            have HN2 := Lib.hid h2
            clear h2
            go_wp2_with fail
            refine cP0.out.mono ?_
            rintro e w2 ⟨v, rfl, hr2, hb2⟩
            obtain ⟨g2, cp2, rfl⟩ := sr_form hr2
            have HB2 := Lib.hid (HBx.out.trans (hb2.mono HBx.out.size))
            have BW2 := Lib.hid (BWx.out.trans (hb2.mono BWx.out.size))
            obtain ⟨np, hnp⟩ : ∃ n, PX.length = n := ⟨_, rfl⟩
            rw [hnp] at HE0 ⊢
            clear hr2 hb2 cP0 c0 t2 t2n hnp
            by_cases h4 : 4 < np
            · have t4 : decide ((4 : Int) < (np : Int)) = true := decide_eq_true (by omega)
              have t4n : decide (4 < np) = true := decide_eq_true h4
              have hno := HQ.out 4 (by
                have h := HHd3.out (by rw [HE0.out, if_pos (.inr h4)]; decide)
                rw [HE0.out, if_pos (.inr h4)] at h
                exact h) w2 BW2.out
              clear HHd3 HJ2 HE0 h4
              go_wp2
              first | exact hno | (go_ret; exact hno)
            · have t4 : decide ((4 : Int) < (np : Int)) = false := decide_eq_false (by omega)
              have t4n : decide (4 < np) = false := decide_eq_false h4
              have HJ3 := Lib.hid (HJ2.out (by rw [HE0.out, if_neg (fun g => g.elim HN2.out h4)]))
              clear HHd3 HJ2 HE0 h4 HN2
              go_wp2
              go_roundw
              case rel => exact ⟨k + 1, by go_num, by omega, HJ3.out, HB2.out⟩
              case measure => simp [intOf]; omega
    · obtain rfl : k = n := by omega
      have hfin := HEnd2.out HJ.out
      obtain ⟨⟨x0, x1, x2, x3, x4⟩, -⟩ := HBox.out wr BW.out
      by_cases h8 : 8 < ns
      · have t8 : decide ((8 : Int) < (ns : Int)) = true := decide_eq_true (by omega)
        have t8n : decide (8 < ns) = true := decide_eq_true h8
        have hno := HQ.out 13 (by rw [hfin, if_pos h8]) wr BW.out
        clear hfin h8 HHd2 HEnd2
        go_wp2
        first | exact hno | (go_ret; exact hno)
      · have t8 : decide ((8 : Int) < (ns : Int)) = false := decide_eq_false (by omega)
        have t8n : decide (8 < ns) = false := decide_eq_false h8
        have hno := HQ.out 0 (by rw [hfin, if_neg h8]) wr BW.out
        clear hfin h8 HHd2 HEnd2
        go_wp2
        first | exact hno | (go_ret; exact hno)
end

end Go.Proofs.YtmcolapcmjdoeaaGreatDoor
