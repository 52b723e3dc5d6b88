/- Merged: QJ13, QK13, QL13. -/
import Derived.Test.YtmcolapcmjdoeaaGreatDoorQ30
import Derived.Deep.LoopGhost
namespace Go.Proofs.YtmcolapcmjdoeaaGreatDoor

section
open Go.RowKit Go.PlainAid Go.Maps
theorem zero_ints (w : World) : (zeroValue 29).run Tryz.prog w = .ok nilV w := by kernel_rfl
theorem zero_bool13 (w : World) : (zeroValue 4).run Tryz.prog w = .ok (.bool false) w := by kernel_rfl
/-- Block b says to which numbers one step leads from each number. -/
def LK (b : Nat) (F : Int → List Int) (w : World) : Prop := ∃ f m, VM 3 mkI b f m w ∧ ∀ x, IL ((f x).getD nilV) (F x) w
theorem LK.after {b : Nat} {F : Int → List Int} {w w' : World} (h : LK b F w) (hb : Below w.heap.size w w') : LK b F w' := by
  obtain ⟨f, m, h1, h2⟩ := h
  exact ⟨f, m, VM.after h1 hb, fun x => (h2 x).after hb⟩
theorem LK.lt {b : Nat} {F : Int → List Int} {w : World} (h : LK b F w) : b < w.heap.size := by
  obtain ⟨f, m, h1, _⟩ := h
  exact VM.lt h1
theorem get_snoc (M : List Au) (a : Au) (x : Int) (hx : x ≠ a.id) : getA (M ++ [a]) x = getA M x := by
  unfold getA
  rw [List.find?_append]
  have : List.find? (fun b => b.id == x) [a] = none := by
    rw [List.find?_eq_none]
    intro b hb
    obtain rfl := List.mem_singleton.1 hb
    simp
    exact fun e => hx e.symm
  rw [this]
  cases List.find? (fun a => a.id == x) M <;> rfl
theorem up_snoc (M : List Au) (a : Au) (x : Int) (hx : x ≠ a.id) : upF (M ++ [a]) x = upF M x := by
  unfold upF
  rw [get_snoc M a x hx]
theorem up_last (M : List Au) (a : Au) (h : AscA (M ++ [a])) : upF (M ++ [a]) a.id = a.above := up_of (M ++ [a]) h a (by simp)
theorem asc_take (L : List Au) (k : Nat) (h : AscA L) : AscA (L.take k) := List.Pairwise.sublist (List.take_sublist k L) h

set_option maxHeartbeats 16000000 in
set_option maxRecDepth 100000 in
theorem upward_any (v : Value) (L : List Au) (w : World) (hv : AL v L w) (hz : L.length ≤ 1000000) (hs : AscA L) (hid : ∀ a ∈ L, 1 ≤ a.id ∧ a.id ≤ 9999) :
    Calls Tryz.prog 56 #[v] w fun e w' => ∃ b, e = .returned (.map (some b)) ∧ LK b (upF L) w' ∧ w.heap.size ≤ b ∧ Below w.heap.size w w' := by
  obtain ⟨Q, hQ⟩ : ∃ Q, (fun (e : Ending) (w' : World) => ∃ b, e = .returned (.map (some b)) ∧ LK b (upF L) w' ∧ w.heap.size ≤ b ∧ Below w.heap.size w w') = Q := ⟨_, rfl⟩
  rw [hQ]
  have HQ : RowKit.Hid (∀ W, LK w.heap.size (upF L) W → Below w.heap.size w W → Q (.returned (.map (some w.heap.size))) W) := by
    rw [← hQ]
    exact fun W h1 h2 => ⟨_, rfl, h1, Nat.le_refl _, h2⟩
  have HV := Lib.hid hv
  have HId := Lib.hid hid
  have HAsc := Lib.hid (fun k => asc_take L k hs)
  obtain ⟨va, vc, rfl, hc1, hc2⟩ := hv.length
  obtain ⟨n, hn⟩ : ∃ n, L.length = n := ⟨_, rfl⟩
  have HN := Lib.hid hn
  rw [hn] at HV hc1 hz ⊢
  have hmm := @run_makeMap Tryz.prog
  have HM0 : RowKit.Hid (∃ f m, m ≤ 0 ∧ VM 3 mkI w.heap.size f m (w.alloc (.map #[] 0)) ∧ ∀ x, IL ((f x).getD nilV) (upF (L.take 0) x) w) := ⟨fun _ => none, 0, Nat.le_refl _, VM.made _ _ w, fun x => IL.nil _⟩
  have HB0 : RowKit.Hid (Below w.heap.size w (w.alloc (.map #[] 0))) := (Below.refl _ _).alloc (Nat.le_refl _) _
  clear hQ hv hn hs hid
  go_enter Tryz.func56, Tryz.ntmps56
  go_wp2
  go_loopw [9] (fun s9 wr => ∃ k : Nat, s9 = .int .i64 (k : Int) ∧ k ≤ n ∧ RowKit.Hid (∃ f m, m ≤ k ∧ VM 3 mkI w.heap.size f m wr ∧ ∀ x, IL ((f x).getD nilV) (upF (L.take k) x) w) ∧ RowKit.Hid (Below w.heap.size w wr)) (fun s9 _ => n - (intOf s9).toNat)
  case atStart => exact ⟨0, rfl, Nat.zero_le _, HM0.out, HB0.out⟩
  case round =>
    obtain ⟨k, rfl, hk, HM, HB⟩ := hrel
    clear HM0 HB0
    by_cases hkn : k < n
    · have i1 : (0 : Int) ≤ (k : Int) := by omega
      have i2 : (k : Int) < (n : Int) := by omega
      obtain ⟨g, o, cap', s, t, he, hg, c0, c1, c2, c3, c4, hq⟩ := HV.out.at k (by rw [HN.out]; exact hkn)
      obtain ⟨rfl, -, hcp⟩ := Value.slice.inj he
      have c0 := (HB.out.cell (p := ⟨g, o + k * 5, none⟩) hg).trans c0
      have c1 := (HB.out.cell (p := ⟨g, o + k * 5 + 1, none⟩) hg).trans c1
      have c2 := (HB.out.cell (p := ⟨g, o + k * 5 + 2, none⟩) hg).trans c2
      have c3 := (HB.out.cell (p := ⟨g, o + k * 5 + 3, none⟩) hg).trans c3
      have c4 := (HB.out.cell (p := ⟨g, o + k * 5 + 4, none⟩) hg).trans c4
      obtain ⟨a, ha⟩ : ∃ a, L.getD k au0 = a := ⟨_, rfl⟩
      have hmem : a ∈ L := by
        rw [← ha, getD_at13 L k (by rw [HN.out]; exact hkn)]
        exact List.getElem_mem _
      have hst : L.take (k + 1) = L.take k ++ [a] := by
        rw [List.take_succ_eq_append_getElem (by rw [HN.out]; exact hkn), ← getD_at13 L k (by rw [HN.out]; exact hkn), ha]
      rw [ha] at c0 c1 c2 hq
      have HIt := Lib.hid hq.2
      obtain ⟨as2, cs2, hs2, -, -⟩ := hq.1.length
      obtain ⟨at2, ct2, ht2, -⟩ := hq.2
      have hia := HId.out a hmem
      have hwf : wfI a.id := ⟨by omega, by omega⟩
      obtain ⟨f, m, hm, hvm, hil⟩ := HM.out
      obtain ⟨Wb, hWb⟩ : ∃ W, wr.alloc (.cells #[.int .i64 a.id, .int .i64 a.kind, .string (S a.heading), s, t] 31) = W := ⟨_, rfl⟩
      have bb : Below wr.heap.size wr Wb := by rw [← hWb]; exact (Below.refl _ _).alloc (Nat.le_refl _) _
      have hRb : Wb.heap[wr.heap.size]? = some (.cells #[.int .i64 a.id, .int .i64 a.kind, .string (S a.heading), s, t] 31 (0, 0)) := by rw [← hWb]; exact heap_alloc_new wr _
      obtain ⟨⟨y0, y1, y2, y3, y4⟩, -⟩ := acells hRb
      have HVb := Lib.hid (VM.after hvm bb)
      have HBb := Lib.hid (HB.out.trans (bb.mono HB.out.size))
      have HWb := Lib.hid hWb
      have HKey := Lib.hid (key_int a.id hwf)
      have HIl : RowKit.Hid (∀ x, IL (((fun z => if z = a.id then some t else f z) x).getD nilV) (upF (L.take (k + 1)) x) w) := by
        intro x
        show IL ((if x = a.id then some t else f x).getD nilV) _ w
        rw [hst]
        by_cases hx : x = a.id
        · subst hx
          have := up_last (L.take k) a (by rw [← hst]; exact HAsc.out (k + 1))
          rw [if_pos rfl, this]
          exact HIt.out
        · rw [if_neg hx, up_snoc _ _ _ hx]
          exact hil x
      have hmx : m < maxLen := by unfold maxLen; omega
      clear he hcp ha hq hWb bb hRb hst hvm hil HM hwf hia
      subst hs2 ht2
      go_upto_region 5 with fail
      rw [HWb.out]
      clear c0 c1 c2 c3 c4
      go_wp2_with (at_mapUpdate; refine wpList_store_vm _ rfl _ _ _ 83 29 rfl mkI_inj mkI_key HVb.out keyed_int Tryz.underlying83 hmx rfl _ rfl _ a.id rfl HKey.out ?_; intro w6 hm6 hg6)
      have HM6 : RowKit.Hid (∃ f m, m ≤ k + 1 ∧ VM 3 mkI w.heap.size f m w6 ∧ ∀ x, IL ((f x).getD nilV) (upF (L.take (k + 1)) x) w) := ⟨_, _, by split <;> omega, hm6, HIl.out⟩
      have HB6 : RowKit.Hid (Below w.heap.size w w6) := HBb.out.grown hg6 HBb.out.size (fun j hj => by cases hj; exact Nat.le_refl _)
      clear hm6 hg6 y0 y1 y2 y3 y4
      go_roundw
      case rel => exact ⟨k + 1, by go_num, by omega, HM6.out, HB6.out⟩
      case measure => simp [intOf]; omega
    · obtain rfl : k = n := by omega
      have hT : L.take k = L := by rw [← HN.out, List.take_length]
      obtain ⟨f, m, hm, hvm, hil⟩ := HM.out
      rw [hT] at hil
      have hfin := Lib.hid (HQ.out _ ⟨f, m, hvm, fun x => (hil x).after HB.out⟩ HB.out)
      clear hvm hil hT HM
      go_wp2
      first | exact hfin.out | (go_ret; exact hfin.out)
end

section
open Go.RowKit Go.PlainAid Go.Maps
/-- Block b says which numbers have been reached; how many. -/
def rmF (f : Int → Bool) : Int → Option Value := fun x => if f x = true then some (.bool true) else none
def RM (b : Nat) (f : Int → Bool) (m : Nat) (w : World) : Prop := VM 3 mkI b (rmF f) m w
theorem rm_add (f : Int → Bool) (x : Int) : (fun z => if z = x then some (Value.bool true) else rmF f z) = rmF (addF f x) := by
  funext z
  unfold rmF addF
  by_cases h : z = x
  · subst h
    simp
  · have h2 : ¬ x = z := fun e => h e.symm
    simp [h, h2]
theorem rm_cnt (f : Int → Bool) (x : Int) (m : Nat) (h : f x = false) : (if (rmF f x).isSome = true then m else m + 1) = m + 1 := by
  unfold rmF
  simp [h]
theorem rm_look (f : Int → Bool) (x : Int) : (rmF f x).getD (.bool false) = .bool (f x) := by
  unfold rmF
  cases f x <;> rfl

set_option maxHeartbeats 32000000 in
set_option maxRecDepth 100000 in
theorem reach_any (b : Nat) (F : Int → List Int) (id : Int) (w : World) (hk : LK b F w) (hw : wfI id) (U : List Int) (hUn : U.Nodup) (hU0 : ∀ y ∈ F id, y ∈ U) (hU : ∀ x ∈ U, ∀ y ∈ F x, y ∈ U) (hUw : ∀ x ∈ U, wfI x) (hN : (F id).length + (U.map fun x => (F x).length).sum ≤ 100000) (hUl : U.length ≤ 100000) :
    Calls Tryz.prog 57 #[.map (some b), .int .i64 id] w fun e w' => ∃ b2 f m, e = .returned (.map (some b2)) ∧ RM b2 f m w' ∧ m ≤ 100000 ∧ Lst F id f ∧ (∀ x, f x = true → x ∈ U) ∧ Below w.heap.size w w' := by
  obtain ⟨Q, hQ⟩ : ∃ Q, (fun (e : Ending) (w' : World) => ∃ b2 f m, e = .returned (.map (some b2)) ∧ RM b2 f m w' ∧ m ≤ 100000 ∧ Lst F id f ∧ (∀ x, f x = true → x ∈ U) ∧ Below w.heap.size w w') = Q := ⟨_, rfl⟩
  rw [hQ]
  have HQ : RowKit.Hid (∀ b2 f m W, RM b2 f m W → m ≤ 100000 → Lst F id f → (∀ x, f x = true → x ∈ U) → Below w.heap.size w W → Q (.returned (.map (some b2))) W) := by
    rw [← hQ]
    exact fun b2 f m W h1 h2 h3 h4 h5 => ⟨b2, f, m, rfl, h1, h2, h3, h4, h5⟩
  obtain ⟨fl, ml, hvl, hil⟩ := hk
  have hmm := @run_makeMap Tryz.prog
  obtain ⟨W0, hW0⟩ : ∃ W, w.alloc (.map #[] 0) = W := ⟨_, rfl⟩
  have b0 : Below w.heap.size w W0 := by rw [← hW0]; exact (Below.refl _ _).alloc (Nat.le_refl _) _
  have hsz0 : W0.heap.size = w.heap.size + 1 := by rw [← hW0]; simp
  have HRM0 : RowKit.Hid (RM w.heap.size (fun _ => false) 0 W0) := by
    rw [← hW0]
    exact VM.made _ _ w
  have HVl := Lib.hid hvl
  have HIl := Lib.hid hil
  have HW0 := Lib.hid hW0
  have HB0 := Lib.hid b0
  have HS0 := Lib.hid hsz0
  have HKid := Lib.hid (key_int id hw)
  have HUw := Lib.hid hUw
  have HU := Lib.hid hU
  have HUn := Lib.hid hUn
  have HInv0 := Lib.hid (inv_start F id U hU0)
  have HPot0 : RowKit.Hid ((F id).length + potU F U (fun _ => false) ≤ 100000) := by
    unfold RowKit.Hid
    rw [pot_none]
    exact hN
  have HPotS := Lib.hid (fun (f : Int → Bool) (x : Int) (hf : f x = false) (hx : x ∈ U) => pot_step F f x hf U hUn hx)
  have HCntS := Lib.hid (fun (f : Int → Bool) (x : Int) (hf : f x = false) (hx : x ∈ U) => cnt_step f x hf U hUn hx)
  have HCntL : RowKit.Hid (∀ f : Int → Bool, U.countP f ≤ 100000) := fun f => Nat.le_trans List.countP_le_length hUl
  have hvl0 : VM 3 mkI b fl ml W0 := VM.after hvl b0
  have HVl0 := Lib.hid hvl0
  have cC := Lib.hid (fun (u : Value) (h : IL u (F id) W0) => cloneI_any (F id) u W0 h (by omega))
  have HIl0 := Lib.hid ((hil id).after b0)
  obtain ⟨uid, huid⟩ : ∃ u, (fl id).getD nilV = u := ⟨_, rfl⟩
  have HUid := Lib.hid huid
  rw [huid] at HIl0
  have cC2 := Lib.hid (cC.out uid HIl0.out)
  obtain ⟨ua, uc, hu, -⟩ := HIl0.out
  subst hu
  clear hQ hvl hil hW0 b0 hsz0 hw hUw hU hUn hU0 hN hUl hvl0 huid cC
  go_enter Tryz.func57, Tryz.ntmps57
  go_upto_region 2 with fail
  rw [HW0.out]
  clear HW0
  go_wp2_with (first
    | (at_lookup; refine wpList_look_vm _ rfl _ _ 83 29 rfl HVl0.out keyed_int Tryz.underlying83 nilV (zero_ints _) rfl _ id rfl HKid.out _ HUid.out ?_)
    | (go_at_call 51; refine cC2.out.mono ?_; rintro e w1 ⟨v1, rfl, hr1, hb1⟩; have HR1 := Lib.hid hr1; have HB1 := Lib.hid hb1; obtain ⟨a1, c1, hv1, -, -⟩ := own_form13 hr1; subst hv1; clear hr1 hb1))
  have HRM1 : RowKit.Hid (RM w.heap.size (fun _ => false) 0 w1) := VM.after HRM0.out HB1.out
  have HWR1 : RowKit.Hid (WR W0.heap.size (.slice a1 (F id).length c1) (F id) w1) := WR.of HR1.out
  have HBw1 : RowKit.Hid (Below w.heap.size w w1) := HB0.out.trans (HB1.out.mono HB0.out.size)
  obtain ⟨pot0, hp0⟩ : ∃ q, potU F U (fun _ => false) = q := ⟨_, rfl⟩
  obtain ⟨n0, hn0⟩ : ∃ q, (F id).length = q := ⟨_, rfl⟩
  have HP0 := Lib.hid hp0
  have HN0 := Lib.hid hn0
  have hpot0 := HPot0.out
  rw [hp0, hn0] at hpot0
  rw [hn0] at HWR1 ⊢
  clear hp0 hn0 HPot0
  go_wp2
  go_loopg [6] (n0 + pot0) (fun kx s6 wr => ∃ (l : List Int) (f : Int → Bool) (m n : Nat) (a : Option Addr) (c pot : Nat), s6 = .slice a n c ∧ l.length = n ∧ potU F U f = pot ∧ n + pot ≤ kx ∧ n + pot ≤ 100000 ∧ m ≤ U.countP f ∧ WR W0.heap.size (.slice a n c) l wr ∧ RM w.heap.size f m wr ∧ Inv F id U f l ∧ Below w.heap.size w wr)
  case atStart => exact ⟨F id, fun _ => false, 0, n0, a1, c1, pot0, rfl, HN0.out, HP0.out, Nat.le_refl _, hpot0, Nat.zero_le _, HWR1.out, HRM1.out, HInv0.out, HBw1.out⟩
  case round =>
    obtain ⟨l, f, m, n, a, c, pot, rfl, hln, hpot, hkx, hmx, hmc, hwr, hrm, hinv, hbw⟩ := hrel
    have HRM := Lib.hid hrm
    have HInv := Lib.hid hinv
    have HB := Lib.hid hbw
    have HM := Lib.hid hmc
    clear HRM1 HWR1 HBw1 HInv0 hrm hinv hbw hmc HP0 HN0
    cases l with
    | nil =>
      obtain rfl : n = 0 := by rw [← hln]; rfl
      have hfin := Lib.hid (HQ.out w.heap.size f m _ HRM.out (Nat.le_trans HM.out (HCntL.out f)) (inv_end HInv.out) HInv.out.inU.1 HB.out)
      have t0 : decide ((0 : Int) < ((0 : Nat) : Int)) = false := rfl
      clear hwr hln
      go_wp2
      first | exact hfin.out | (go_ret; exact hfin.out)
    | cons x r =>
      obtain ⟨g, o, cap, hv, hc1, hc2, hx0, hW1, hW2⟩ := hwr.head
      obtain ⟨rfl, hnr, rfl⟩ := Value.slice.inj hv
      obtain ⟨n', hn'⟩ : ∃ q, r.length = q := ⟨_, rfl⟩
      rw [hn'] at hnr hc1 hW1 hW2
      subst hnr
      have HRl := hn'
      have HxU : RowKit.Hid (x ∈ U) := HInv.out.inU.2 x (by simp)
      have hwx := HUw.out x HxU.out
      have HKx := Lib.hid (key_int x hwx)
      have HPot := Lib.hid hpot
      have HWr1 := Lib.hid hW1
      have HWr2 := Lib.hid hW2
      have HVr : RowKit.Hid (VM 3 mkI b fl ml wr) := VM.after HVl.out HB.out
      have HLtb : RowKit.Hid (b < w.heap.size ∧ b < wr.heap.size) := ⟨VM.lt HVl.out, Nat.lt_of_lt_of_le (VM.lt HVl.out) HB.out.size⟩
      have HSz : RowKit.Hid (W0.heap.size ≤ wr.heap.size) := by
        have h1 := VM.lt HRM.out
        have h2 := HS0.out
        unfold RowKit.Hid
        omega
      obtain ⟨ux, hux⟩ : ∃ u, (fl x).getD nilV = u := ⟨_, rfl⟩
      have HUx := Lib.hid hux
      have hix := HIl.out x
      rw [hux] at hix
      have HIx := Lib.hid hix
      clear hv hwr hW1 hW2 hux hwx hpot hix
      have i1 : decide ((0 : Int) < ((n' : Int) + 1)) = true := decide_eq_true (by omega)
      by_cases h1 : c = 1
      · have HWr := Lib.hid (HWr1.out h1)
        cases hfx : f x with
        | true =>
          have HInv2 := Lib.hid (inv_old HInv.out hfx)
          have HLk : RowKit.Hid ((rmF f x).getD (.bool false) = .bool true) := by unfold RowKit.Hid; rw [rm_look, hfx]
          clear hfx
          go_wp2_with (at_lookup; refine wpList_look_vm _ rfl _ _ 81 4 rfl HRM.out keyed_int Tryz.underlying81 (.bool false) (zero_bool13 _) rfl _ x rfl HKx.out _ HLk.out ?_)
          go_roundg (n' + pot)
          case measure => omega
          case rel => exact ⟨r, f, m, n', some ⟨g, o, none⟩, 0, pot, rfl, HRl, HPot.out, Nat.le_refl _, by omega, HM.out, HWr.out, HRM.out, HInv2.out, HB.out⟩
        | false =>
          have HInv2 := Lib.hid (inv_new HInv.out HU.out)
          have HLk : RowKit.Hid ((rmF f x).getD (.bool false) = .bool false) := by unfold RowKit.Hid; rw [rm_look, hfx]
          have hps := HPotS.out f x hfx HxU.out
          have hcs := HCntS.out f x hfx HxU.out
          have hcl := HCntL.out f
          have HAdd := Lib.hid (rm_add f x)
          have HCt := Lib.hid (rm_cnt f x m hfx)
          obtain ⟨pot2, hpot2⟩ : ∃ q, potU F U (addF f x) = q := ⟨_, rfl⟩
          obtain ⟨fx, hfxl⟩ : ∃ q, (F x).length = q := ⟨_, rfl⟩
          have hm1 := HM.out
          have hm2 : m < maxLen := by unfold maxLen; omega
          have hpp : pot2 + fx = pot := by rw [← hpot2, ← hfxl, ← HPot.out]; exact hps
          have HPot2 := Lib.hid hpot2
          have HFx := Lib.hid hfxl
          have HLen : RowKit.Hid (r.length + (F x).length ≤ 1000000) := by unfold RowKit.Hid; rw [HRl, hfxl]; omega
          have HCs := Lib.hid hcs
          clear hfx hps hcs hcl hpot2 hfxl
          go_wp2_with (first
            | (at_lookup; refine wpList_look_vm _ rfl _ _ 81 4 rfl HRM.out keyed_int Tryz.underlying81 (.bool false) (zero_bool13 _) rfl _ x rfl HKx.out _ HLk.out ?_)
            | (at_lookup; refine wpList_look_vm _ rfl _ _ 83 29 rfl HV7.out keyed_int Tryz.underlying83 nilV (zero_ints _) rfl _ x rfl HKx.out _ HUx.out ?_)
            | (at_mapUpdate; refine wpList_store_vm _ rfl _ _ _ 81 4 rfl mkI_inj mkI_key HRM.out keyed_int Tryz.underlying81 hm2 rfl (.bool true) rfl _ x rfl HKx.out ?_; intro w7 hm7 hg7; have hm7' := hm7; rw [HAdd.out, HCt.out] at hm7'; have HRM7 : RowKit.Hid (RM w.heap.size (addF f x) (m + 1) w7) := hm7'; have HG7 := Lib.hid hg7; have HV7 : RowKit.Hid (VM 3 mkI b fl ml w7) := VM.same HVr.out (hg7.block b HLtb.out.2 (fun e => by have := Option.some.inj e; have := HLtb.out.1; omega)); have HB7 : RowKit.Hid (Below w.heap.size w w7) := HB.out.grown hg7 HB.out.size (fun j hj => by cases hj; exact Nat.le_refl _); have HW7 : RowKit.Hid (WR W0.heap.size (.slice (some ⟨g, o, none⟩) n' 0) r w7) := WR.after HWr.out (fun i h1 h2 => hg7.block i h2 (fun e => by have := Option.some.inj e; have := HS0.out; omega)); have HI7 : RowKit.Hid (IL ux (F x) w7) := HIx.out.after HB7.out; have hsz7 : W0.heap.size ≤ w7.heap.size := Nat.le_trans HSz.out hg7.size; clear hm7 hm7' hg7)
            | (at_builtin; refine wpList_append_wr _ rfl _ _ rfl W0.heap.size (.slice (some ⟨g, o, none⟩) n' 0) r rfl HW7.out hsz7 ux (F x) rfl HI7.out HLen.out ?_; intro v8 w8 hw8 hb8; have HW8 := Lib.hid hw8; have HB8 := Lib.hid hb8; obtain ⟨a8, c8, hv8⟩ := hw8.form; subst hv8; clear hw8 hb8))
          have HB9 : RowKit.Hid (Below w.heap.size w w8) := HB7.out.trans (HB8.out.mono (by have := HS0.out; omega))
          have HRM9 : RowKit.Hid (RM w.heap.size (addF f x) (m + 1) w8) := VM.same HRM7.out (HB8.out.block _ (by have := HS0.out; omega))
          have hl9 : (r ++ F x).length = n' + fx := by rw [List.length_append, HRl, HFx.out]
          have HL9 := Lib.hid hl9
          have HW9 := HW8.out
          rw [hl9] at HW9
          rw [HFx.out]
          have HW9' := Lib.hid HW9
          clear hl9 HW9
          go_roundg (n' + fx + pot2)
          case measure => omega
          case rel => exact ⟨r ++ F x, addF f x, m + 1, n' + fx, a8, c8, pot2, rfl, HL9.out, HPot2.out, Nat.le_refl _, by omega, (by rw [HCs.out]; exact Nat.succ_le_succ hm1), HW9'.out, HRM9.out, HInv2.out, HB9.out⟩
      · have HWr := Lib.hid (HWr2.out h1)
        cases hfx : f x with
        | true =>
          have HInv2 := Lib.hid (inv_old HInv.out hfx)
          have HLk : RowKit.Hid ((rmF f x).getD (.bool false) = .bool true) := by unfold RowKit.Hid; rw [rm_look, hfx]
          clear hfx
          go_wp2_with (at_lookup; refine wpList_look_vm _ rfl _ _ 81 4 rfl HRM.out keyed_int Tryz.underlying81 (.bool false) (zero_bool13 _) rfl _ x rfl HKx.out _ HLk.out ?_)
          go_roundg (n' + pot)
          case measure => omega
          case rel => exact ⟨r, f, m, n', some ⟨g, o + 1, none⟩, (c - 1), pot, rfl, HRl, HPot.out, Nat.le_refl _, by omega, HM.out, HWr.out, HRM.out, HInv2.out, HB.out⟩
        | false =>
          have HInv2 := Lib.hid (inv_new HInv.out HU.out)
          have HLk : RowKit.Hid ((rmF f x).getD (.bool false) = .bool false) := by unfold RowKit.Hid; rw [rm_look, hfx]
          have hps := HPotS.out f x hfx HxU.out
          have hcs := HCntS.out f x hfx HxU.out
          have hcl := HCntL.out f
          have HAdd := Lib.hid (rm_add f x)
          have HCt := Lib.hid (rm_cnt f x m hfx)
          obtain ⟨pot2, hpot2⟩ : ∃ q, potU F U (addF f x) = q := ⟨_, rfl⟩
          obtain ⟨fx, hfxl⟩ : ∃ q, (F x).length = q := ⟨_, rfl⟩
          have hm1 := HM.out
          have hm2 : m < maxLen := by unfold maxLen; omega
          have hpp : pot2 + fx = pot := by rw [← hpot2, ← hfxl, ← HPot.out]; exact hps
          have HPot2 := Lib.hid hpot2
          have HFx := Lib.hid hfxl
          have HLen : RowKit.Hid (r.length + (F x).length ≤ 1000000) := by unfold RowKit.Hid; rw [HRl, hfxl]; omega
          have HCs := Lib.hid hcs
          clear hfx hps hcs hcl hpot2 hfxl
          go_wp2_with (first
            | (at_lookup; refine wpList_look_vm _ rfl _ _ 81 4 rfl HRM.out keyed_int Tryz.underlying81 (.bool false) (zero_bool13 _) rfl _ x rfl HKx.out _ HLk.out ?_)
            | (at_lookup; refine wpList_look_vm _ rfl _ _ 83 29 rfl HV7.out keyed_int Tryz.underlying83 nilV (zero_ints _) rfl _ x rfl HKx.out _ HUx.out ?_)
            | (at_mapUpdate; refine wpList_store_vm _ rfl _ _ _ 81 4 rfl mkI_inj mkI_key HRM.out keyed_int Tryz.underlying81 hm2 rfl (.bool true) rfl _ x rfl HKx.out ?_; intro w7 hm7 hg7; have hm7' := hm7; rw [HAdd.out, HCt.out] at hm7'; have HRM7 : RowKit.Hid (RM w.heap.size (addF f x) (m + 1) w7) := hm7'; have HG7 := Lib.hid hg7; have HV7 : RowKit.Hid (VM 3 mkI b fl ml w7) := VM.same HVr.out (hg7.block b HLtb.out.2 (fun e => by have := Option.some.inj e; have := HLtb.out.1; omega)); have HB7 : RowKit.Hid (Below w.heap.size w w7) := HB.out.grown hg7 HB.out.size (fun j hj => by cases hj; exact Nat.le_refl _); have HW7 : RowKit.Hid (WR W0.heap.size (.slice (some ⟨g, o + 1, none⟩) n' (c - 1)) r w7) := WR.after HWr.out (fun i h1 h2 => hg7.block i h2 (fun e => by have := Option.some.inj e; have := HS0.out; omega)); have HI7 : RowKit.Hid (IL ux (F x) w7) := HIx.out.after HB7.out; have hsz7 : W0.heap.size ≤ w7.heap.size := Nat.le_trans HSz.out hg7.size; clear hm7 hm7' hg7)
            | (at_builtin; refine wpList_append_wr _ rfl _ _ rfl W0.heap.size (.slice (some ⟨g, o + 1, none⟩) n' (c - 1)) r rfl HW7.out hsz7 ux (F x) rfl HI7.out HLen.out ?_; intro v8 w8 hw8 hb8; have HW8 := Lib.hid hw8; have HB8 := Lib.hid hb8; obtain ⟨a8, c8, hv8⟩ := hw8.form; subst hv8; clear hw8 hb8))
          have HB9 : RowKit.Hid (Below w.heap.size w w8) := HB7.out.trans (HB8.out.mono (by have := HS0.out; omega))
          have HRM9 : RowKit.Hid (RM w.heap.size (addF f x) (m + 1) w8) := VM.same HRM7.out (HB8.out.block _ (by have := HS0.out; omega))
          have hl9 : (r ++ F x).length = n' + fx := by rw [List.length_append, HRl, HFx.out]
          have HL9 := Lib.hid hl9
          have HW9 := HW8.out
          rw [hl9] at HW9
          rw [HFx.out]
          have HW9' := Lib.hid HW9
          clear hl9 HW9
          go_roundg (n' + fx + pot2)
          case measure => omega
          case rel => exact ⟨r ++ F x, addF f x, m + 1, n' + fx, a8, c8, pot2, rfl, HL9.out, HPot2.out, Nat.le_refl _, by omega, (by rw [HCs.out]; exact Nat.succ_le_succ hm1), HW9'.out, HRM9.out, HInv2.out, HB9.out⟩
end

section
open Go.RowKit Go.PlainAid Go.Maps
theorem asc_nodup (L : List Au) (h : AscA L) : (L.map (·.id)).Nodup := by
  unfold List.Nodup
  rw [List.pairwise_map]
  exact h.imp (fun g => by omega)
theorem abv_ok (L : List Au) (a : Au) (h : abvE L a = 0) : a.above.length ≤ 4 ∧ ascI a.above = true ∧ ∀ y ∈ a.above, ∃ x, getA L y = some x ∧ x.kind = a.kind := by
  rw [abvE_eq] at h
  by_cases h1 : 4 < a.above.length
  · rw [if_pos h1] at h; cases h
  rw [if_neg h1] at h
  by_cases h2 : ascI a.above = false
  · rw [if_pos h2] at h; cases h
  rw [if_neg h2] at h
  by_cases h3 : (a.above.all (upOk L a)) = false
  · rw [if_pos h3] at h; cases h
  have h3' : a.above.all (upOk L a) = true := by simpa using h3
  refine ⟨by omega, by simpa using h2, fun y hy => ?_⟩
  have := List.all_eq_true.1 h3' y hy
  unfold upOk at this
  cases e : getA L y with
  | none => rw [e] at this; cases this
  | some x =>
    rw [e] at this
    exact ⟨x, rfl, of_decide_eq_true this⟩
theorem up_len (L : List Au) (h : ∀ a ∈ L, abvE L a = 0) (x : Int) : (upF L x).length ≤ 4 := by
  unfold upF
  cases e : getA L x with
  | none => exact Nat.zero_le _
  | some a => exact (abv_ok L a (h a (get_some L x a e).1)).1
theorem up_in (L : List Au) (h : ∀ a ∈ L, abvE L a = 0) (x y : Int) (hy : y ∈ upF L x) : y ∈ L.map (·.id) := by
  obtain ⟨a, ha, _, hm⟩ := up_mem L x y hy
  obtain ⟨b, hb, _⟩ := (abv_ok L a (h a ha)).2.2 y hm
  obtain ⟨h1, h2⟩ := get_some L y b hb
  exact List.mem_map.2 ⟨b, h1, h2⟩
theorem sum_le13 (f : Int → Nat) (m : Nat) : ∀ U : List Int, (∀ x ∈ U, f x ≤ m) → (U.map f).sum ≤ U.length * m
  | [], _ => Nat.zero_le _
  | x :: r, h => by
    have h1 := h x (by simp)
    have h2 := sum_le13 f m r (fun y hy => h y (by simp [hy]))
    rw [List.map_cons, List.sum_cons, List.length_cons, Nat.succ_mul]
    omega

set_option maxHeartbeats 16000000 in
set_option maxRecDepth 100000 in
theorem looped_any (v : Value) (L : List Au) (w : World) (hv : AL v L w) (hz : L.length ≤ 100) (hs : AscA L) (hid : ∀ a ∈ L, 1 ≤ a.id ∧ a.id ≤ 9999) (hab : ∀ a ∈ L, abvE L a = 0) (q : Bool) (hq : (L.any fun a => decide (a.id ∈ aboveA L a.id)) = q) :
    Calls Tryz.prog 42 #[v] w fun e w' => e = .returned (.bool q) ∧ Below w.heap.size w w' := by
  have HV := Lib.hid hv
  have cU := Lib.hid (upward_any v L w hv (by omega) hs hid)
  have hUl : (L.map (·.id)).length ≤ 100000 := by rw [List.length_map]; omega
  have hsum : ((L.map (·.id)).map fun x => (upF L x).length).sum ≤ 400 := by
    have := sum_le13 (fun x => (upF L x).length) 4 (L.map (·.id)) (fun x _ => up_len L hab x)
    rw [List.length_map] at this
    omega
  have HR := Lib.hid (fun (b : Nat) (a : Au) (ha : a ∈ L) (W : World) (hk : LK b (upF L) W) => reach_any b (upF L) a.id W hk ⟨by have := hid a ha; omega, by have := hid a ha; omega⟩ (L.map (·.id)) (asc_nodup L hs) (up_in L hab a.id) (fun x _ y hy => up_in L hab x y hy)
    (fun x hx => by obtain ⟨c, hc, rfl⟩ := List.mem_map.1 hx; have := hid c hc; exact ⟨by omega, by omega⟩) (by have := up_len L hab a.id; omega) hUl)
  have HUp := Lib.hid (fun (a : Au) (f : Int → Bool) (hf : Lst (upF L) a.id f) => (Bool.eq_iff_iff.2 ((up_above L hs a.id f hf a.id).trans (decide_eq_true_iff (p := a.id ∈ aboveA L a.id)).symm) : f a.id = decide (a.id ∈ aboveA L a.id)))
  have HKey := Lib.hid (fun (a : Au) (ha : a ∈ L) => key_int a.id ⟨by have := hid a ha; omega, by have := hid a ha; omega⟩)
  have HQ := Lib.hid hq
  obtain ⟨va, vc, rfl, hc1, hc2⟩ := hv.length
  obtain ⟨n, hn⟩ : ∃ n, L.length = n := ⟨_, rfl⟩
  have HN := Lib.hid hn
  rw [hn] at HV cU hc1 hz ⊢
  clear hv hn hs hid hab hUl hsum hq
  go_enter Tryz.func42, Tryz.ntmps42
  go_wp2_with fail
  refine cU.out.mono ?_
  rintro e w1 ⟨b, rfl, hk1, hlt1, hb1⟩
  have HK1 := Lib.hid hk1
  have HB1 := Lib.hid hb1
  clear hk1 hlt1 hb1 cU
  go_wp2
  go_loopw [10] (fun s10 wr => ∃ k : Nat, s10 = .int .i64 (k : Int) ∧ k ≤ n ∧ RowKit.Hid (∀ j, j < k → decide ((L.getD j au0).id ∈ aboveA L (L.getD j au0).id) = false) ∧ RowKit.Hid (Below w1.heap.size w1 wr)) (fun s10 _ => n - (intOf s10).toNat)
  case atStart => exact ⟨0, rfl, Nat.zero_le _, (fun j hj => by omega), Below.refl _ _⟩
  case round =>
    obtain ⟨k, rfl, hk, HJ, HB⟩ := hrel
    have HBw := Lib.hid (HB1.out.trans (HB.out.mono HB1.out.size))
    by_cases hkn : k < n
    · have i1 : (0 : Int) ≤ (k : Int) := by omega
      have i2 : (k : Int) < (n : Int) := by omega
      obtain ⟨g, o, cap', s, t, he, hg, c0, c1, c2, c3, c4, hq⟩ := (HV.out.after HBw.out).at k (by rw [HN.out]; exact hkn)
      obtain ⟨rfl, -, hcp⟩ := Value.slice.inj he
      obtain ⟨a, ha⟩ : ∃ a, L.getD k au0 = a := ⟨_, rfl⟩
      have hmem : a ∈ L := by
        rw [← ha, getD_at13 L k (by rw [HN.out]; exact hkn)]
        exact List.getElem_mem _
      rw [ha] at c0 c1 c2 hq
      obtain ⟨as2, cs2, hs2, -, -⟩ := hq.1.length
      obtain ⟨at2, ct2, ht2, -⟩ := hq.2
      obtain ⟨Wb, hWb⟩ : ∃ W, wr.alloc (.cells #[.int .i64 a.id, .int .i64 a.kind, .string (S a.heading), s, t] 31) = W := ⟨_, rfl⟩
      have bb : Below wr.heap.size wr Wb := by rw [← hWb]; exact (Below.refl _ _).alloc (Nat.le_refl _) _
      have hRb : Wb.heap[wr.heap.size]? = some (.cells #[.int .i64 a.id, .int .i64 a.kind, .string (S a.heading), s, t] 31 (0, 0)) := by rw [← hWb]; exact heap_alloc_new wr _
      have hltb : wr.heap.size < Wb.heap.size := by rw [← hWb]; simp
      obtain ⟨⟨y0, y1, y2, y3, y4⟩, -⟩ := acells hRb
      have hbb : Below w1.heap.size w1 Wb := HB.out.trans (bb.mono HB.out.size)
      have HKb : RowKit.Hid (LK b (upF L) Wb) := HK1.out.after hbb
      have HBb := Lib.hid hbb
      have cR := Lib.hid (fun (W : World) (h : Below Wb.heap.size Wb W) => HR.out b a hmem W (HKb.out.after h))
      have HWb := Lib.hid hWb
      have HRb := Lib.hid hRb
      have HKa := Lib.hid (HKey.out a hmem)
      have HUa := Lib.hid (HUp.out a)
      have HA := Lib.hid ha
      obtain ⟨p, hp⟩ : ∃ p, decide (a.id ∈ aboveA L a.id) = p := ⟨_, rfl⟩
      have HP := Lib.hid hp
      have hbd : Below Wb.heap.size Wb Wb.drew := (Below.refl Wb.heap.size Wb).drew
      have HBd := Lib.hid hbd
      clear he hcp hq hWb bb hRb hbb ha hp
      subst hs2 ht2
      go_upto_region 5 with fail
      rw [HWb.out]
      clear c0 c1 c2 c3 c4
      cases p with
      | false =>
        have HJ2 : RowKit.Hid (∀ j, j < k + 1 → decide ((L.getD j au0).id ∈ aboveA L (L.getD j au0).id) = false) := by
          intro j hj
          rcases Nat.lt_or_ge j k with h | h
          · exact HJ.out j h
          · rw [show j = k by omega, HA.out, HP.out]
        go_region_law (go_simp; go_at_call 57; refine (cR.out _ ?_).mono ?_; (exact hbd); rintro e w9 ⟨b2, f, m, rfl, hrm9, -, hlst, -, hb9⟩; have hb19 : Below Wb.heap.size Wb w9 := HBd.out.trans (hb9.mono HBd.out.size); have HB9 := Lib.hid hb19; have hF9 := (hb19.block wr.heap.size hltb).trans HRb.out; obtain ⟨⟨z0, z1, z2, z3, z4⟩, -⟩ := acells hF9; have hlk := VM.look hrm9 keyed_int Tryz.underlying81 (zero_bool13 w9) HKa.out; rw [rm_look, HUa.out f hlst, HP.out] at hlk; clear hb9 hb19 hF9 hrm9 hlst)
        all_goals
          have HBn : RowKit.Hid (Below w1.heap.size w1 w9) := HBb.out.trans (HB9.out.mono HBb.out.size)
          clear hlk z0 z1 z2 z3 z4 y0 y1 y2 y3 y4 hbd
          go_wp2
          go_roundw
          case rel => exact ⟨k + 1, by go_num, by omega, HJ2.out, HBn.out⟩
          case measure => simp [intOf]; omega
      | true =>
        have hqt : q = true := by
          rw [← HQ.out, List.any_eq_true]
          exact ⟨a, hmem, HP.out⟩
        go_region_law (go_simp; go_at_call 57; refine (cR.out _ ?_).mono ?_; (exact hbd); rintro e w9 ⟨b2, f, m, rfl, hrm9, -, hlst, -, hb9⟩; have hb19 : Below Wb.heap.size Wb w9 := HBd.out.trans (hb9.mono HBd.out.size); have HB9 := Lib.hid hb19; have hF9 := (hb19.block wr.heap.size hltb).trans HRb.out; obtain ⟨⟨z0, z1, z2, z3, z4⟩, -⟩ := acells hF9; have hlk := VM.look hrm9 keyed_int Tryz.underlying81 (zero_bool13 w9) HKa.out; rw [rm_look, HUa.out f hlst, HP.out] at hlk; clear hb9 hb19 hF9 hrm9 hlst)
        all_goals
          have HBn : RowKit.Hid (Below w.heap.size w w9) := (HB1.out.trans ((HBb.out.trans (HB9.out.mono HBb.out.size)).mono HB1.out.size))
          clear hlk z0 z1 z2 z3 z4 y0 y1 y2 y3 y4 hbd
          go_wp2
          go_ret
          exact ⟨by rw [hqt]; rfl, HBn.out⟩
    · obtain rfl : k = n := by omega
      have hqf : q = false := by
        rw [← HQ.out, Bool.eq_false_iff]
        intro h
        obtain ⟨a, ha, hp⟩ := List.any_eq_true.1 h
        obtain ⟨j, hj, rfl⟩ := List.mem_iff_getElem.1 ha
        have := HJ.out j (by rw [HN.out] at hj; exact hj)
        rw [getD_at13 L j hj, hp] at this
        cases this
      go_wp2
      go_ret
      exact ⟨by rw [hqf]; rfl, HBw.out⟩
end

end Go.Proofs.YtmcolapcmjdoeaaGreatDoor
