/- Merged: QZ13, Al13, Am13. -/
import Derived.Test.YtmcolapcmjdoeaaGreatDoorQ38
import Derived.Test.YtmcolapcmjdoeaaGreatDoorQ34
namespace Go.Proofs.YtmcolapcmjdoeaaGreatDoor

section
open Go.RowKit Go.PlainAid Go.Maps
set_option maxHeartbeats 32000000 in
set_option maxRecDepth 100000 in
theorem downward_any (v : Value) (L : List Au) (w : World) (hv : AL v L w) (hz : L.length ≤ 64) (hab : ∀ a ∈ L, a.above.length ≤ 100 ∧ ∀ y ∈ a.above, 1 ≤ y ∧ y ≤ 9999) :
    Calls Tryz.prog 58 #[v] w fun e w' => ∃ b, e = .returned (.map (some b)) ∧ LK b (downF L) w' ∧ Below w.heap.size w w' := by
  obtain ⟨Q, hQ⟩ : ∃ Q, (fun (e : Ending) (w' : World) => ∃ b, e = .returned (.map (some b)) ∧ LK b (downF L) w' ∧ Below w.heap.size w w') = Q := ⟨_, rfl⟩
  rw [hQ]
  have HQ : RowKit.Hid (∀ W, LK w.heap.size (downF L) W → Below w.heap.size w W → Q (.returned (.map (some w.heap.size))) W) := by
    rw [← hQ]
    exact fun W h1 h2 => ⟨_, rfl, h1, h2⟩
  have HV := Lib.hid hv
  have HAb := Lib.hid hab
  obtain ⟨va, vc, rfl, hc1, hc2⟩ := hv.length
  obtain ⟨n, hn⟩ : ∃ n, L.length = n := ⟨_, rfl⟩
  have HN := Lib.hid hn
  rw [hn] at HV hc1 hz ⊢
  have hmm := @run_makeMap Tryz.prog
  have HM0 : RowKit.Hid (DN w.heap.size (downF (L.take 0)) 0 (w.alloc (.map #[] 0))) := ⟨fun _ => none, 0, Nat.le_refl _, VM.made _ _ w, fun x => IR.zero _ _, fun x y _ => .inl rfl⟩
  have HB0 : RowKit.Hid (Below w.heap.size w (w.alloc (.map #[] 0))) := (Below.refl _ _).alloc (Nat.le_refl _) _
  have HS0 : RowKit.Hid (w.heap.size + 1 ≤ (w.alloc (.map #[] 0)).heap.size) := by unfold RowKit.Hid; simp
  obtain ⟨b0, hb0⟩ : ∃ b, w.heap.size = b := ⟨_, rfl⟩
  have HBz := Lib.hid hb0
  rw [hb0] at HM0 HB0 HS0 HQ
  clear hQ hv hn hab
  go_enter Tryz.func58, Tryz.ntmps58
  go_wp2
  clear hb0
  go_loopw [11] (fun s11 wr => ∃ k : Nat, s11 = .int .i64 (k : Int) ∧ k ≤ n ∧ RowKit.Hid (DN b0 (downF (L.take k)) (1000 * k) wr) ∧ RowKit.Hid (Below b0 w wr) ∧ RowKit.Hid (b0 + 1 ≤ wr.heap.size)) (fun s11 _ => n - (intOf s11).toNat)
  case atStart => exact ⟨0, rfl, Nat.zero_le _, HM0.out, HB0.out, HS0.out⟩
  case round =>
    obtain ⟨k, rfl, hk, HM, HB, HS⟩ := hrel
    clear HM0 HB0 HS0
    by_cases hkn : k < n
    · have i1 : (0 : Int) ≤ (k : Int) := by omega
      have i2 : (k : Int) < (n : Int) := by omega
      have hBw : Below w.heap.size w wr := by rw [HBz.out]; exact HB.out
      obtain ⟨g, o, cap', s, t, he, hg, hrd⟩ := HV.out.read k (by rw [HN.out]; exact hkn)
      obtain ⟨c0, c1, c2, c3, c4, -⟩ := hrd wr hBw
      have hq := (hrd w (Below.refl _ _)).2.2.2.2.2
      clear hrd
      obtain ⟨rfl, -, hcp⟩ := Value.slice.inj he
      obtain ⟨a, ha⟩ : ∃ a, L.getD k au0 = a := ⟨_, rfl⟩
      have hmem : a ∈ L := by
        rw [← ha, getD_at13 L k (by rw [HN.out]; exact hkn)]
        exact List.getElem_mem _
      have hst : L.take (k + 1) = L.take k ++ [a] := by
        rw [List.take_succ_eq_append_getElem (by rw [HN.out]; exact hkn), ← getD_at13 L k (by rw [HN.out]; exact hkn), ha]
      rw [ha] at c0 c1 c2 hq
      obtain ⟨Wb, hWb⟩ : ∃ W, wr.alloc (.cells #[.int .i64 a.id, .int .i64 a.kind, .string (S a.heading), s, t] 31) = W := ⟨_, rfl⟩
      have bb : Below wr.heap.size wr Wb := by rw [← hWb]; exact (Below.refl _ _).alloc (Nat.le_refl _) _
      have hRb : Wb.heap[wr.heap.size]? = some (.cells #[.int .i64 a.id, .int .i64 a.kind, .string (S a.heading), s, t] 31 (0, 0)) := by rw [← hWb]; exact heap_alloc_new wr _
      have HIt := Lib.hid hq.2
      obtain ⟨as2, cs2, hs2, -, -⟩ := hq.1.length
      obtain ⟨at2, ct2, ht2, hlt2, -⟩ := hq.2
      obtain ⟨bx, hbx⟩ : ∃ b, wr.heap.size = b := ⟨_, rfl⟩
      have HWr := Lib.hid hbx
      have HBb : RowKit.Hid (Below b0 w Wb) := HB.out.trans (bb.mono (by have := HS.out; omega))
      have HSb : RowKit.Hid (b0 + 1 ≤ Wb.heap.size) := Nat.le_trans HS.out bb.size
      have HMb := Lib.hid ((HM.out.after bb).congr (H := downF (L.take k ++ [{ a with above := a.above.take 0 }])) (fun x => by rw [List.take_zero, down_none]) (Nat.le_refl _))
      rw [hbx] at hRb
      have HWb := Lib.hid hWb
      obtain ⟨ha1, ha2⟩ := HAb.out a hmem
      have HEl := Lib.hid ha2
      have HLen : RowKit.Hid (∀ j x, (downF (L.take k ++ [{ a with above := a.above.take j }]) x).length ≤ 100000) := by
        intro j x
        have := down_len 100 (L.take k ++ [{ a with above := a.above.take j }]) x (fun c hc => by
          rcases List.mem_append.1 hc with h | h
          · exact (HAb.out c (List.mem_of_mem_take h)).1
          · rw [List.mem_singleton.1 h]
            show (a.above.take j).length ≤ 100
            rw [List.length_take]
            omega)
        rw [List.length_append, List.length_take, List.length_singleton] at this
        omega
      have HEnd : RowKit.Hid (L.take k ++ [{ a with above := a.above.take a.above.length }] = L.take (k + 1)) := by
        unfold RowKit.Hid
        rw [hst, List.take_length]
      obtain ⟨nt, hnt⟩ : ∃ q, a.above.length = q := ⟨_, rfl⟩
      have HNt := Lib.hid hnt
      rw [hnt] at ht2 ha1 HEnd hlt2
      have HRb := Lib.hid hRb
      obtain ⟨⟨y0, y1, y2, y3, y4⟩, -⟩ := acells hRb
      subst hs2 ht2
      clear he hcp ha hq hWb bb hRb hst HM hBw hbx ha2 hnt HS HB
      go_upto_region 5 with fail
      rw [HWb.out, HWr.out]
      clear c0 c1 c2 c3 c4
      go_wp2
      go_loopw [18] (fun s18 wi => ∃ j : Nat, s18 = .int .i64 (j : Int) ∧ j ≤ nt ∧ RowKit.Hid (DN b0 (downF (L.take k ++ [{ a with above := a.above.take j }])) (1000 * k + j) wi) ∧ RowKit.Hid (Below b0 w wi) ∧ RowKit.Hid (b0 + 1 ≤ wi.heap.size) ∧ RowKit.Hid (wi.heap[bx]? = some (.cells #[.int .i64 a.id, .int .i64 a.kind, .string (S a.heading), .slice as2 a.see.length cs2, .slice at2 nt ct2] 31 (0, 0)))) (fun s18 _ => nt - (intOf s18).toNat)
      case atStart => exact ⟨0, rfl, Nat.zero_le _, HMb.out, HBb.out, HSb.out, HRb.out⟩
      case round =>
        obtain ⟨j, rfl, hj, HMj, HBj, HSj, HRj⟩ := hrel
        by_cases hjn : j < nt
        · have j1 : (0 : Int) ≤ (j : Int) := by omega
          have j2 : (j : Int) < (nt : Int) := by omega
          obtain ⟨x, hx⟩ : ∃ x, a.above.getD j 0 = x := ⟨_, rfl⟩
          have hjl : j < a.above.length := by rw [HNt.out]; exact hjn
          have hxm : x ∈ a.above := by
            rw [← hx, List.getD_eq_getElem?_getD, List.getElem?_eq_getElem hjl]
            exact List.getElem_mem _
          have hst : a.above.take (j + 1) = a.above.take j ++ [x] := by
            rw [List.take_succ_eq_append_getElem hjl, ← hx, List.getD_eq_getElem?_getD, List.getElem?_eq_getElem hjl]
            rfl
          have hwf := HEl.out x hxm
          have HKey := Lib.hid (key_int x ⟨by omega, by omega⟩)
          obtain ⟨g2, o2, cap2, he2, hg2, c0⟩ := il_at HIt.out j hjl
          obtain ⟨rfl, -, hcp2⟩ := Value.slice.inj he2
          rw [hx] at c0
          have hBwi : Below w.heap.size w wr := by rw [HBz.out]; exact HBj.out
          have c0 := (hBwi.cell (p := ⟨g2, o2 + j, none⟩) hg2).trans c0
          obtain ⟨f, m, u, hm, hvm, hu, v', w2, hrun, hvm2, ⟨a1, n1, c1, e1⟩, ⟨a2, n2, c2, e2⟩, hbox, hend⟩ := HMj.out.put HSj.out HBj.out x a.id (HLen.out j x) 29
          have hbx2 := hbox bx _ _ HRj.out
          obtain ⟨⟨z0, z1, z2, z3, z4⟩, -⟩ := acells HRj.out
          have hmx : m < maxLen := by unfold maxLen; omega
          have HEnd2 : RowKit.Hid (∀ w3, VM 3 mkI b0 (fun z => if z = x then some v' else f z) (if (f x).isSome = true then m else m + 1) w3 → w2.grownBy w3 (some b0) → DN b0 (downF (L.take k ++ [{ a with above := a.above.take (j + 1) }])) (1000 * k + (j + 1)) w3 ∧ Below b0 w w3 ∧ b0 + 1 ≤ w3.heap.size ∧ w3.heap[bx]? = some (.cells #[.int .i64 a.id, .int .i64 a.kind, .string (S a.heading), .slice as2 a.see.length cs2, .slice (some ⟨g2, o2, none⟩) nt ct2] 31 (0, 0))) := by
            intro w3 h1 h2
            obtain ⟨q1, q2, q3⟩ := hend w3 h1 h2
            refine ⟨q1.congr (fun z => ?_) (by omega), q2, q3, ?_⟩
            · rw [hst, down_snoc]
            · exact (h2.block bx (Array.getElem?_eq_some_iff.1 hbx2.1).1 (fun e => hbx2.2 (Option.some.inj e))).trans hbx2.1
          have HVm := Lib.hid hvm
          have HVm2 := Lib.hid hvm2
          have HLk : RowKit.Hid ((f x).getD nilV = .slice a2 n2 c2) := by rw [← e2]; exact hu
          subst e1 e2
          have Hrun := Lib.hid hrun
          clear hx hjl hxm hst hwf he2 hcp2 hg2 hBwi hm hvm hu hrun hvm2 hbox hend hbx2 HMj HBj HSj HRj HMb HBb HSb HRb
          go_wp2_with (first
            | (at_lookup; refine wpList_look_vm _ rfl _ _ 83 29 rfl HVm.out keyed_int Tryz.underlying83 nilV (zero_ints _) rfl _ x rfl HKey.out _ HLk.out ?_)
            | (at_builtin; refine wpList_append_run rfl _ _ 29 29 rfl _ _ rfl rfl Hrun.out ?_)
            | (at_mapUpdate; refine wpList_store_vm _ rfl _ _ _ 83 29 rfl mkI_inj mkI_key HVm2.out keyed_int Tryz.underlying83 hmx rfl _ rfl _ x rfl HKey.out ?_; intro w6 hm6 hg6))
          obtain ⟨q1, q2, q3, q4⟩ := HEnd2.out w6 hm6 hg6
          have Q1 := Lib.hid q1
          have Q2 := Lib.hid q2
          have Q3 := Lib.hid q3
          have Q4 := Lib.hid q4
          clear q1 q2 q3 q4 hm6 hg6 HEnd2
          go_roundw
          case rel => exact ⟨j + 1, by go_num, by omega, Q1.out, Q2.out, Q3.out, Q4.out⟩
          case measure => simp [intOf]; omega
        · obtain rfl : j = nt := by omega
          have hfin := HMj.out.congr (H := downF (L.take (k + 1))) (fun x => by rw [HEnd.out]) (d := 1000 * (k + 1)) (by omega)
          have HFin := Lib.hid hfin
          clear hfin HMj HMb HBb HSb HRb HWb HWr
          go_wp2
          go_roundw
          case rel => exact ⟨k + 1, by go_num, by omega, HFin.out, HBj.out, HSj.out⟩
          case measure => simp [intOf]; omega
    · obtain rfl : k = n := by omega
      have hT : L.take k = L := by rw [← HN.out, List.take_length]
      have hlk := HM.out.lk
      rw [hT] at hlk
      have hfin := Lib.hid (HQ.out _ hlk HB.out)
      clear hT hlk HM
      go_wp2
      first | exact hfin.out | (go_ret; exact hfin.out)
set_option maxHeartbeats 4000000 in
theorem below_any (v : Value) (L : List Au) (id : Int) (w : World) (hv : AL v L w) (hb : bnd L) (hr : rightA L = 0) (hi : 1 ≤ id ∧ id ≤ 9999) :
    Calls Tryz.prog 23 #[v, .int .i64 id] w fun e w' => ∃ v', e = .returned v' ∧ IL v' (belowA L id) w' ∧ Below w.heap.size w w' := by
  have hs := right_asc L hr
  have hab := (right_out L hr).2.2.2.1
  have hid := fun a ha => ((ones_out L none (right_out L hr).2.1).2.1 a ha).2
  have hz := hb.1
  have hUl : (L.map (·.id)).length ≤ 100000 := by rw [List.length_map]; omega
  have hab2 : ∀ a ∈ L, a.above.length ≤ 4 ∧ ∀ y ∈ a.above, 1 ≤ y ∧ y ≤ 9999 := fun a ha => by
    obtain ⟨s1, _, s3⟩ := abv_ok L a (hab a ha)
    refine ⟨s1, fun y hy => ?_⟩
    obtain ⟨c, hc, _⟩ := s3 y hy
    obtain ⟨h1, h2⟩ := get_some L y c hc
    rw [← h2]
    exact hid c h1
  have cU := Lib.hid (downward_any v L w hv hz (fun a ha => ⟨Nat.le_trans (hab2 a ha).1 (by decide), (hab2 a ha).2⟩))
  have hdl : ∀ x, (downF L x).length ≤ 256 := fun x => by
    have := down_len 4 L x (fun a ha => (hab2 a ha).1)
    omega
  have hN : (downF L id).length + ((L.map (·.id)).map fun x => (downF L x).length).sum ≤ 100000 := by
    have h1 := hdl id
    have h2 := sum_le13 (fun x => (downF L x).length) 256 (L.map (·.id)) (fun x _ => hdl x)
    rw [List.length_map] at h2
    omega
  have hin : ∀ x y, y ∈ downF L x → y ∈ L.map (·.id) := fun x y hy => by
    obtain ⟨a, ha, rfl, _⟩ := (down_mem L x y).1 hy
    exact List.mem_map.2 ⟨a, ha, rfl⟩
  have cR := Lib.hid (fun (b : Nat) (W : World) (hk : LK b (downF L) W) => reach_any b (downF L) id W hk ⟨by omega, by omega⟩ (L.map (·.id)) (asc_nodup L hs) (hin id) (fun x _ y hy => hin x y hy)
    (fun x hx => by obtain ⟨c, hc, rfl⟩ := List.mem_map.1 hx; have := hid c hc; exact ⟨by omega, by omega⟩) hN hUl)
  have HEq := Lib.hid (fun (l : List Int) (f : Int → Bool) (h1 : AscI l) (h2 : ∀ x, x ∈ l ↔ f x = true) (h3 : Lst (downF L) id f) => asc_same l (belowA L id) h1 (below_asc L id) (fun x => (h2 x).trans (down_below L hs id f h3 x)))
  obtain ⟨va, vc, rfl, hc1, hc2⟩ := hv.length
  generalize L.length = n at *
  clear hv hb hr hs hab hid hN hUl hab2 hdl hin
  go_enter Tryz.func23, Tryz.ntmps23
  go_wp2_with fail
  refine cU.out.mono ?_
  rintro e w1 ⟨b1, rfl, hk1, hb1⟩
  have cR1 := Lib.hid (cR.out b1 w1 hk1)
  have HB1 := Lib.hid hb1
  clear hk1 hb1 cU cR
  go_wp2_with fail
  refine cR1.out.mono ?_
  rintro e w2 ⟨b2, f, m, rfl, hrm, hm, hl, -, hb2⟩
  have cK := Lib.hid (keys_any (some b2) w2)
  have cS := Lib.hid (sorted_any b2 m f w2 hrm hm)
  have HL := Lib.hid hl
  have HB2 := Lib.hid (HB1.out.trans (hb2.mono HB1.out.size))
  clear hrm hl hb2 cR1
  go_wp2_with fail
  refine cK.out.mono ?_
  rintro e w3 ⟨rfl, hw3⟩
  rw [hw3]
  clear hw3 cK
  go_wp2_with fail
  refine cS.out.mono ?_
  rintro e w4 ⟨v4, l, rfl, hil, hasc, hmem, hb4⟩
  have hfin : ∃ v', Ending.returned v4 = Ending.returned v' ∧ IL v' (belowA L id) w4 ∧ Below w.heap.size w w4 := ⟨v4, rfl, by rw [← HEq.out l f hasc hmem HL.out]; exact hil, HB2.out.trans (hb4.mono HB2.out.size)⟩
  have HFin := Lib.hid hfin
  obtain ⟨a4, c4, rfl, -⟩ := hil
  generalize l.length = n4 at *
  clear hfin hasc hmem hb4 cS HEq
  go_wp2
  go_ret
  exact HFin.out
end

section
open Go.RowKit Go.PlainAid
theorem an_bnd : bnd animals := ⟨by decide, by decide⟩
theorem an_short : ∀ a ∈ animals, a.see.length * 16 ≤ 140737488351232 := by decide
theorem BL.one13 (w : World) (x : List UInt8) : BL (.slice (some ⟨w.heap.size, 0, none⟩) 1 1) [x] (w.alloc (.cells #[.string (S x)] 9)) := (SR.one13 w x).bl
theorem IL.one13 (w : World) (x : Int) : IL (.slice (some ⟨w.heap.size, 0, none⟩) 1 1) [x] (w.alloc (.cells #[.int .i64 x] 3)) := by
  refine ⟨_, 1, rfl, Nat.le_refl _, fun i y hy => ⟨w.heap.size, 0, rfl, by simp, ?_⟩⟩
  match i, hy with
  | 0, hy =>
    obtain rfl : x = y := by simpa using hy
    rw [Lib.cell_of_heap (heap_alloc_new w _)]
    rfl
/-- The cells of the two authorities. -/
def anC (s t : Value) : Array Value := #[.int .i64 1, .int .i64 3, .string (S [65, 110, 105, 109, 97, 108, 115]), .slice none 0 0, .slice none 0 0, .int .i64 2, .int .i64 3, .string (S [68, 111, 103, 115]), s, t]
theorem an_al (w : World) (s t : Value) (hs : BL s [[72, 111, 117, 110, 100, 115]] w) (ht : IL t [1] w) : AL (.slice (some ⟨w.heap.size, 0, none⟩) 2 2) animals (w.alloc (.cells (anC s t) 31)) := by
  have hbk := heap_alloc_new w (.cells (anC s t) 31)
  have hb := (Below.refl w.heap.size w).alloc (Nat.le_refl _) (.cells (anC s t) 31)
  refine ⟨_, 2, rfl, Nat.le_refl _, by unfold maxLen; omega, (fun h => by cases h), fun i hi => ?_⟩
  have hi2 : i < 2 := hi
  match i, hi2 with
  | 0, _ =>
    refine ⟨w.heap.size, 0, .slice none 0 0, .slice none 0 0, rfl, (Array.getElem?_eq_some_iff.1 hbk).1, ?_, ?_, ?_, ?_, ?_, ⟨⟨none, 0, rfl, Nat.le_refl _, Nat.zero_le _, fun _ => rfl, fun i hi => by cases hi⟩, IL.nil _⟩⟩ <;> (rw [Lib.cell_of_heap hbk]; rfl)
  | 1, _ =>
    refine ⟨w.heap.size, 0, s, t, rfl, (Array.getElem?_eq_some_iff.1 hbk).1, ?_, ?_, ?_, ?_, ?_, ⟨hs.after hb, ht.after hb⟩⟩ <;> (rw [Lib.cell_of_heap hbk]; rfl)
set_option maxHeartbeats 8000000 in
theorem lanimals_any (w : World) : Calls Tryz.prog 25 #[] w fun e w' => ∃ v, e = .returned v ∧ AL v animals w' ∧ Below w.heap.size w w' := by
  obtain ⟨W1, hW1⟩ : ∃ W, w.alloc (.cells #[.string ⟨#[72, 111, 117, 110, 100, 115]⟩] 9) = W := ⟨_, rfl⟩
  have b1 : Below w.heap.size w W1 := by rw [← hW1]; exact (Below.refl _ _).alloc (Nat.le_refl _) _
  have l1 : BL (.slice (some ⟨w.heap.size, 0, none⟩) 1 1) [[72, 111, 117, 110, 100, 115]] W1 := by rw [← hW1]; exact BL.one13 w _
  have s1 : W1.heap.size = w.heap.size + 1 := by rw [← hW1]; simp
  obtain ⟨W2, hW2⟩ : ∃ W, W1.alloc (.cells #[.int .i64 1] 3) = W := ⟨_, rfl⟩
  have b2 : Below W1.heap.size W1 W2 := by rw [← hW2]; exact (Below.refl _ _).alloc (Nat.le_refl _) _
  have l2 : IL (.slice (some ⟨W1.heap.size, 0, none⟩) 1 1) [1] W2 := by rw [← hW2]; exact IL.one13 W1 1
  have s2 : W2.heap.size = w.heap.size + 1 + 1 := by rw [← hW2]; simp [s1]
  have hal := an_al W2 _ _ (l1.after b2) l2
  have hbf : Below w.heap.size w (W2.alloc (.cells (anC (.slice (some ⟨w.heap.size, 0, none⟩) 1 1) (.slice (some ⟨W1.heap.size, 0, none⟩) 1 1)) 31)) := (b1.trans (b2.mono b1.size)).alloc (Nat.le_trans b1.size b2.size) _
  rw [s1, s2] at hal
  rw [s1] at hbf
  unfold anC at hal hbf
  have HAl := Lib.hid hal
  have HBf := Lib.hid hbf
  have HW1 := Lib.hid hW1
  have HW2 := Lib.hid hW2
  clear hal hbf b1 l1 s1 b2 l2 s2 hW1 hW2
  go_enter Tryz.func25, Tryz.ntmps25
  go_wp2
  rw [HW1.out, HW2.out]
  first | exact ⟨_, rfl, HAl.out, HBf.out⟩ | (go_ret; exact ⟨_, rfl, HAl.out, HBf.out⟩)
end

section
open Go.RowKit Go.PlainAid
def an8 : List Au := [⟨1, 3, [65, 110, 105, 109, 97, 108, 115], [], []⟩, ⟨2, 3, [72, 111, 117, 110, 100, 115], [[68, 111, 103, 115]], [1]⟩]
set_option maxHeartbeats 16000000 in
set_option maxRecDepth 100000 in
theorem lalive13_any (C : Pr13) (w : World) (hE : Env w) : Calls Tryz.prog 6 #[] w fun e w' => e = .returned (.bool true) ∧ Below w.heap.size w w' := by
  have HE := Lib.hid (fun (W : World) (hb : Below w.heap.size w W) => hE.after hb)
  have cA := Lib.hid (lanimals_any w)
  have HC := Lib.hid C
  clear hE C
  go_enter Tryz.func6, Tryz.ntmps6
  go_wp2_with fail
  refine cA.out.mono ?_
  rintro e w1 ⟨v, rfl, hal1, hb1⟩
  have HA1 := Lib.hid hal1
  have B1 := Lib.hid hb1
  have c1 := HC.out.find v animals 3 [104, 111, 117, 110, 100, 115] w1 (HE.out w1 hb1) hal1 an_bnd an_right (by decide +kernel) (by decide) ⟨by decide, by decide⟩
  rw [an_find] at c1
  have C1 := Lib.hid c1
  clear hal1 hb1 cA c1
  go_wp2_with fail
  refine C1.out.mono ?_
  rintro e w2 ⟨rfl, hb2⟩
  have HA2 := Lib.hid (HA1.out.after hb2)
  have B2 := Lib.hid (B1.out.trans (hb2.mono B1.out.size))
  have c1 := HC.out.find v animals 3 [68, 79, 71, 83] w2 (HE.out w2 B2.out) HA2.out an_bnd an_right (by decide +kernel) (by decide) ⟨by decide, by decide⟩
  rw [an_find2] at c1
  have C2 := Lib.hid c1
  clear hb2 C1 c1 HA1 B1
  go_wp2_with fail
  refine C2.out.mono ?_
  rintro e w3 ⟨rfl, hb3⟩
  have HA3 := Lib.hid (HA2.out.after hb3)
  have B3 := Lib.hid (B2.out.trans (hb3.mono B2.out.size))
  have c1 := HC.out.right v animals w3 (HE.out w3 B3.out) HA3.out an_bnd
  rw [an_right] at c1
  have C3 := Lib.hid c1
  clear hb3 C2 c1 HA2 B2
  go_wp2_with fail
  refine C3.out.mono ?_
  rintro e w4 ⟨rfl, hb4⟩
  have HA4 := Lib.hid (HA3.out.after hb4)
  have B4 := Lib.hid (B3.out.trans (hb4.mono B3.out.size))
  have c1 := HC.out.rename v animals 2 [72, 111, 117, 110, 100, 115] w4 w4 (HE.out w4 B4.out) (Below.refl _ _) HA4.out an_bnd an_right (by decide +kernel) (by decide)
  rw [an_ren] at c1
  have C4 := Lib.hid c1
  clear hb4 C3 c1 HA3 B3
  go_wp2_with fail
  refine C4.out.mono ?_
  rintro e w5 ⟨v8, rfl, hkp8, hb5⟩
  have hal8 := hkp8 w5 (Kp.self (Below.refl _ _) hb5)
  have HA5 := Lib.hid (HA4.out.after hb5)
  have B5 := Lib.hid (B4.out.trans (hb5.mono B4.out.size))
  obtain ⟨g, o, cap, s, t, hv8, hg, hrd⟩ := AL.read hal8 1 (by decide)
  subst hv8
  have HRd := Lib.hid hrd
  obtain ⟨-, -, c2, c3, -, hAN⟩ := hrd w5 (Below.refl _ _)
  obtain ⟨sa, sc, hs, -, -⟩ := hAN.1.length
  subst hs
  have hlen : (an8).length = 2 := rfl
  have bD := (Below.refl w5.heap.size w5).alloc (Nat.le_refl _) (.cells #[.string (S [68, 111, 103, 115])] 9)
  have hBD := BL.one13 w5 [68, 111, 103, 115]
  have hSD := (hrd _ bD).2.2.2.2.2.1
  have cT := Lib.hid (fun b hb => refTexts_any [[68, 111, 103, 115]] [[68, 111, 103, 115]] _ _ _ hSD hBD b hb)
  have CT := Lib.hid (cT.out true (by decide))
  have BT := Lib.hid (B5.out.trans (bD.mono B5.out.size))
  have HAT := Lib.hid (HA5.out.after bD)
  clear hb5 C4 HA4 B4 hkp8 hal8 hrd hAN hBD hSD cT bD
  change w5.cell? ⟨g, o + 1 * 5 + 2, none⟩ = some (.string ⟨#[72, 111, 117, 110, 100, 115]⟩) at c2
  rw [Nat.one_mul] at c2 c3
  have eD : S [68, 111, 103, 115] = (⟨#[68, 111, 103, 115]⟩ : ByteArray) := rfl
  rw [eD] at CT BT HAT
  change w5.cell? ⟨g, o + 5 + 3, none⟩ = some (.slice sa 1 sc) at c3
  clear eD
  go_wp2_with fail
  refine CT.out.mono ?_
  rintro e w6 ⟨rfl, hb6⟩
  have HA6 := Lib.hid (HAT.out.after hb6)
  have B6 := Lib.hid (BT.out.trans (hb6.mono BT.out.size))
  have c1 := HC.out.remove v animals 1 w6 (HE.out w6 B6.out) HA6.out an_bnd an_right
  rw [an_rem] at c1
  have C6 := Lib.hid c1
  clear hb6 CT c1 c2 c3 HAT BT HA5 B5 HRd hlen
  go_wp2_with fail
  refine C6.out.mono ?_
  rintro e w7 ⟨v9, rfl, -, hb7⟩
  have HA7 := Lib.hid (HA6.out.after hb7)
  have B7 := Lib.hid (B6.out.trans (hb7.mono B6.out.size))
  have b8 := (Below.refl w7.heap.size w7).alloc (Nat.le_refl _) (.cells #[.int .i64 2] 3)
  have HA8 := Lib.hid (HA7.out.after b8)
  have B8 := Lib.hid (B7.out.trans (b8.mono B7.out.size))
  have c1 := HC.out.setAbove v animals 1 _ [2] _ (HE.out _ B8.out) HA8.out (IL.one13 w7 2) an_bnd (by decide) an_right
  rw [an_set] at c1
  have C8 := Lib.hid c1
  clear hb7 C6 c1 HA6 B6 HA7 B7 b8
  go_wp2_with fail
  refine C8.out.mono ?_
  rintro e w9 ⟨v10, rfl, -, hb9⟩
  have HA9 := Lib.hid (HA8.out.after hb9)
  have B9 := Lib.hid (B8.out.trans (hb9.mono B8.out.size))
  have c1 := HC.out.add v animals ⟨3, 3, [100, 111, 103, 115], [], []⟩ (.slice none 0 0) (.slice none 0 0) w9 (HE.out w9 B9.out) HA9.out ⟨⟨none, 0, rfl, Nat.le_refl _, Nat.zero_le _, fun _ => rfl, fun i hi => by cases hi⟩, IL.nil _⟩ an_bnd ⟨by decide, by decide⟩ an_right
  rw [an_add] at c1
  unfold AV at c1
  have eD : S [100, 111, 103, 115] = (⟨#[100, 111, 103, 115]⟩ : ByteArray) := rfl
  rw [eD] at c1
  have C9 := Lib.hid c1
  clear hb9 C8 c1 HA8 B8 eD
  go_wp2_with fail
  refine C9.out.mono ?_
  rintro e w10 ⟨v11, rfl, -, hb10⟩
  have HA10 := Lib.hid (HA9.out.after hb10)
  have B10 := Lib.hid (B9.out.trans (hb10.mono B9.out.size))
  have c1 := HC.out.above v animals 2 w10 (HE.out w10 B10.out) HA10.out an_bnd an_right ⟨by decide, by decide⟩
  rw [an_above] at c1
  have C10 := Lib.hid c1
  clear hb10 C9 c1 HA9 B9
  go_wp2_with fail
  refine C10.out.mono ?_
  rintro e w11 ⟨v12, rfl, hil, hb11⟩
  have HA11 := Lib.hid (HA10.out.after hb11)
  have B11 := Lib.hid (B10.out.trans (hb11.mono B10.out.size))
  have b12 := (Below.refl w11.heap.size w11).alloc (Nat.le_refl _) (.cells #[.int .i64 1] 3)
  have HA12 := Lib.hid (HA11.out.after b12)
  have B12 := Lib.hid (B11.out.trans (b12.mono B11.out.size))
  have C12 := Lib.hid (refInts_any v12 _ [1] [1] _ (hil.after b12) (IL.one13 w11 1) (by decide) (by decide) true (by decide))
  clear hb11 C10 HA10 B10 HA11 B11 b12 hil
  go_wp2_with fail
  refine C12.out.mono ?_
  rintro e w13 ⟨rfl, hb13⟩
  have HA13 := Lib.hid (HA12.out.after hb13)
  have B13 := Lib.hid (B12.out.trans (hb13.mono B12.out.size))
  have c1 := HC.out.below v animals 1 w13 (HE.out w13 B13.out) HA13.out an_bnd an_right ⟨by decide, by decide⟩
  rw [an_below] at c1
  have C13 := Lib.hid c1
  clear hb13 C12 c1 HA12 B12
  go_wp2_with fail
  refine C13.out.mono ?_
  rintro e w14 ⟨v15, rfl, hil, hb14⟩
  have B14 := Lib.hid (B13.out.trans (hb14.mono B13.out.size))
  have b15 := (Below.refl w14.heap.size w14).alloc (Nat.le_refl _) (.cells #[.int .i64 2] 3)
  have B15 := Lib.hid (B14.out.trans (b15.mono B14.out.size))
  have C15 := Lib.hid (refInts_any v15 _ [2] [2] _ (hil.after b15) (IL.one13 w14 2) (by decide) (by decide) true (by decide))
  clear hb14 C13 HA13 B13 B14 b15 hil
  go_wp2_with fail
  refine C15.out.mono ?_
  rintro e w16 ⟨rfl, hb16⟩
  have B16 := Lib.hid (B15.out.trans (hb16.mono B15.out.size))
  clear hb16 C15
  go_wp2
  first | exact ⟨rfl, B16.out⟩ | (go_ret; exact ⟨rfl, B16.out⟩)
end

end Go.Proofs.YtmcolapcmjdoeaaGreatDoor
