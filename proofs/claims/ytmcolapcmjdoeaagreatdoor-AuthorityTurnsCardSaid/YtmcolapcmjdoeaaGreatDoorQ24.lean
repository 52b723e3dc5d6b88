/- Merged: PA12, PB12, PC12. -/
import Derived.Test.YtmcolapcmjdoeaaGreatDoorQ18
namespace Go.Proofs.YtmcolapcmjdoeaaGreatDoor

section

end

section
open Go.RowKit Go.PlainAid
set_option maxHeartbeats 16000000 in
set_option maxRecDepth 100000 in
theorem parts_any (l : List UInt8) (hv : validT l = true) (hl : l.length ≤ 100000) (w : World) (hE : Env w) :
    Calls Tryz.prog 67 #[.string (S l)] w fun e w' => ∃ v, e = .returned v ∧ BL v (partsX l) w' ∧ Below w.heap.size w w' := by
  obtain ⟨Q, hQ⟩ : ∃ Q, (fun (e : Ending) (w' : World) => ∃ v, e = .returned v ∧ BL v (partsX l) w' ∧ Below w.heap.size w w') = Q := ⟨_, rfl⟩
  rw [hQ]
  have HQ : RowKit.Hid (∀ v W, BL v (partsX l) W → Below w.heap.size w W → Q (.returned v) W) := by rw [← hQ]; exact fun v W h k => ⟨v, rfl, h, k⟩
  clear hQ
  have cS := Lib.hid (cSplit l dd (by decide) (by omega) w hE)
  have hpv : ∀ x ∈ splG dd l, ∃ c1, OKs c1 ∧ x = enc c1 := by
    obtain ⟨cs, hcs, rfl⟩ := validT_text l hv
    exact spl_valid dd dd_ascii _ cs (Nat.le_refl _) hcs
  have hpl := spl_mem dd l.length l (Nat.le_refl _)
  have hpn := spl_len dd l.length l (Nat.le_refl _)
  unfold partsX at HQ
  obtain ⟨P, hP⟩ : ∃ P, splG dd l = P := ⟨_, rfl⟩
  rw [hP] at cS hpv hpl hpn HQ
  have HC := Lib.hid (fun k (hk : k < P.length) W => cClean (P.getD k []) (hpv _ (mem_getD12 P k hk)) (Nat.le_trans (hpl _ (mem_getD12 P k hk)) (by omega)) W)
  have HSt := Lib.hid (fun k (hk : k < P.length) => map_take_snoc cleanX P k hk)
  have edd : S dd = ⟨#[45, 45]⟩ := rfl
  rw [edd] at cS
  obtain ⟨n, hn⟩ : ∃ n, P.length = n := ⟨_, rfl⟩
  rw [hn] at HC HSt hpn cS
  have HN := Lib.hid hn
  have hn9 : n ≤ 100001 := by omega
  clear hP hpv hpl hpn edd hl hv hn hE
  generalize S l = st at *
  go_enter Tryz.func67, Tryz.ntmps67
  go_wp2_with fail
  refine cS.out.mono ?_
  rintro e w1 ⟨gp, cpp, rfl, hr1, hb1⟩
  have HP := Lib.hid hr1
  have HB1 := Lib.hid hb1
  have HR0 := Lib.hid (NR.none w1.heap.size w1)
  have HBw0 := Lib.hid (Below.refl w1.heap.size w1)
  clear hr1 hb1 cS
  go_wp2
  go_loopw [3, 10] (fun v3 v10 wr => ∃ (k : Nat) (D : List (List UInt8)), v10 = .int .i64 (k : Int) ∧ k ≤ n ∧ D.length ≤ k ∧ RowKit.Hid (D = nonE ((P.take k).map cleanX)) ∧ RowKit.Hid (NR w1.heap.size v3 D wr) ∧ RowKit.Hid (Below w1.heap.size w1 wr)) (fun _ v10 _ => n - (intOf v10).toNat)
  case atStart => exact ⟨0, [], rfl, Nat.zero_le _, Nat.le_refl _, rfl, HR0, HBw0⟩
  case round =>
    obtain ⟨k, D, rfl, hk, hdk, HD, HR, HB⟩ := hrel
    clear HR0 HBw0
    by_cases hkn : k < n
    · have i1 : (0 : Int) ≤ (k : Int) := by omega
      have i2 : (k : Int) < (n : Int) := by omega
      obtain ⟨g2, o2, cap2, he, hg, c0⟩ := (HP.out.after HB.out).at12 k (by rw [HN.out]; exact hkn)
      obtain ⟨ha, -, hcp⟩ := Value.slice.inj he
      obtain ⟨rfl, rfl, -⟩ := Addr.mk.inj (Option.some.inj ha)
      subst hcp
      rw [Nat.zero_add] at c0
      clear he ha
      have cC := Lib.hid (HC.out k hkn wr)
      have hst := HSt.out k hkn
      obtain ⟨p, hp⟩ : ∃ p, P.getD k [] = p := ⟨_, rfl⟩
      rw [hp] at c0 cC hst
      obtain ⟨y, hy⟩ : ∃ y, cleanX p = y := ⟨_, rfl⟩
      rw [hy] at cC hst
      have HSt2 := Lib.hid hst
      clear hp hy hst
      generalize S p = sp at *
      go_wp2_with fail
      refine cC.out.mono ?_
      rintro e w2 ⟨rfl, hb2⟩
      have HB2 : RowKit.Hid (Below w1.heap.size w1 w2) := HB.out.trans (hb2.mono HB.out.size)
      have HR2 := Lib.hid (HR.out.after hb2)
      clear hb2 cC c0
      by_cases h0 : y = []
      · subst h0
        have e0 : S [] = (⟨#[]⟩ : ByteArray) := rfl
        rw [e0]
        have HD2 : RowKit.Hid (D = nonE ((P.take (k + 1)).map cleanX)) := by
          unfold RowKit.Hid
          rw [HSt2.out, nonE_snoc, if_pos rfl]
          exact HD.out
        go_wp2
        go_roundw
        case rel => exact ⟨k + 1, D, by go_num, by omega, by omega, HD2, HR2, HB2⟩
        case measure => simp [intOf]; omega
      · obtain ⟨s1, s2⟩ := S_facts y h0
        have HD2 : RowKit.Hid (D ++ [y] = nonE ((P.take (k + 1)).map cleanX)) := by
          unfold RowKit.Hid
          rw [HSt2.out, nonE_snoc, if_neg h0, HD.out]
        have hsz := HB2.out.size
        clear h0
        go_wp2_with (at_builtin; go_loud (refine append_nr _ rfl _ _ rfl w1.heap.size u3 D y rfl HR2.out rfl (by omega) hsz w1.heap.size w1 (Nat.le_refl _) HB2.out ?_))
        intro v2 w3 hr3 hb3
        (try intro _)
        have hl3 : (D ++ [y]).length ≤ k + 1 := by rw [List.length_append]; simp; omega
        have HR3 := Lib.hid hr3
        have HB3 := Lib.hid hb3
        clear hr3 hb3 s1 s2
        go_wp2
        go_roundw
        case rel => exact ⟨k + 1, D ++ [y], by go_num, by omega, hl3, HD2, HR3, HB3⟩
        case measure => simp [intOf]; omega
    · obtain rfl : k = n := by omega
      have hD := HD.out
      have ht : P.take k = P := by rw [← HN.out, List.take_length]
      rw [ht] at hD
      subst hD
      have HRf := Lib.hid HR.out.bl
      have HBf := Lib.hid (HB1.out.trans (HB.out.mono HB1.out.size))
      clear ht HD
      go_wp2
      first | exact HQ.out _ _ HRf.out HBf.out | (go_ret; exact HQ.out _ _ HRf.out HBf.out)
end

section
open Go.RowKit Go.PlainAid
set_option maxHeartbeats 16000000 in
set_option maxRecDepth 100000 in
theorem pNorm12_any (l : List UInt8) (hv : validT l = true) (hl : l.length ≤ 9000) (w : World) (_hE : Env w) :
    Calls Tryz.prog 36 #[.string (S l)] w fun e w' => e = .returned (.string (S (normX l))) ∧ Below w.heap.size w w' := by
  obtain ⟨Q, hQ⟩ : ∃ Q, (fun (e : Ending) (w' : World) => e = .returned (.string (S (normX l))) ∧ Below w.heap.size w w') = Q := ⟨_, rfl⟩
  rw [hQ]
  have HQ : RowKit.Hid (∀ W, Below w.heap.size w W → Q (.returned (.string (S (normX l)))) W) := by rw [← hQ]; exact fun W k => ⟨rfl, k⟩
  clear hQ
  have cS := Lib.hid (parts_any l hv (by omega) w _hE)
  have hpl := parts_len l hv
  have hpn : (partsX l).length ≤ 100000 := by
    have h1 := nonE_le ((splG dd l).map cleanX)
    have h2 := spl_len dd l.length l (Nat.le_refl _)
    unfold partsX
    rw [List.length_map] at h1
    omega
  unfold normX normL at HQ
  obtain ⟨P, hP⟩ : ∃ P, partsX l = P := ⟨_, rfl⟩
  rw [hP] at cS hpl hpn HQ
  have HE := Lib.hid (fun (W : World) (hb : Below w.heap.size w W) => _hE.after hb)
  have HC := Lib.hid (fun k (hk : k < P.length) W (hb : Below w.heap.size w W) => cWords (P.getD k []) 9000 (by decide) (by
    obtain ⟨c1, h1, h2, h3⟩ := hpl _ (mem_getD12 P k hk)
    exact ⟨c1, h1, h2, by omega⟩) W (HE.out W hb))
  have HSt := Lib.hid (fun k (hk : k < P.length) => map_take_snoc wordX P k hk)
  have HG := Lib.hid (fun L v W h h2 h3 => cJoin [32] v L W h (by decide) 100000 (by decide) h2 h3)
  have HG2 := Lib.hid (fun L v W h h2 h3 => cJoin dd v L W h (by decide) 100000 (by decide) h2 h3)
  have edd : S dd = ⟨#[45, 45]⟩ := rfl
  have e32 : S [32] = ⟨#[32]⟩ := rfl
  rw [edd] at HG2
  rw [e32] at HG
  obtain ⟨n, hn⟩ : ∃ n, P.length = n := ⟨_, rfl⟩
  rw [hn] at HC HSt hpn
  have HN := Lib.hid hn
  clear hP hpl edd e32 hl hv hn _hE HE
  generalize S l = st at *
  go_enter Tryz.func36, Tryz.ntmps36
  go_wp2_with fail
  refine cS.out.mono ?_
  rintro e w1 ⟨v, rfl, hr1, hb1⟩
  have HP := Lib.hid hr1
  obtain ⟨pa, cpp, rfl, -, -⟩ := hr1.length
  have HB1 := Lib.hid hb1
  have HR0 := Lib.hid (NR.none w1.heap.size w1)
  have HBw0 := Lib.hid (Below.refl w1.heap.size w1)
  rw [HN.out]
  rw [HN.out] at HP
  clear hr1 hb1 cS
  go_wp2
  go_loopw [3, 10] (fun v3 v10 wr => ∃ (k : Nat) (D : List (List UInt8)), v10 = .int .i64 (k : Int) ∧ k ≤ n ∧ D.length ≤ k ∧ RowKit.Hid (∀ y ∈ D, y.length ≤ 100000) ∧ RowKit.Hid (D = nonE ((P.take k).map wordX)) ∧ RowKit.Hid (NR w1.heap.size v3 D wr) ∧ RowKit.Hid (Below w1.heap.size w1 wr)) (fun _ v10 _ => n - (intOf v10).toNat)
  case atStart => exact ⟨0, [], rfl, by omega, Nat.le_refl _, (fun y hy => by cases hy), rfl, HR0, HBw0⟩
  case round =>
    obtain ⟨k, D, rfl, hk, hdk, HDl, HD, HR, HB⟩ := hrel
    clear HR0 HBw0
    by_cases hkn : k < n
    · have i1 : (0 : Int) ≤ (k : Int) := by omega
      have i2 : (k : Int) < (n : Int) := by omega
      obtain ⟨g2, o2, cap2, he, hg, c0⟩ := (HP.out.after HB.out).at12 k (by rw [HN.out]; exact hkn)
      obtain ⟨ha, -, hcp⟩ := Value.slice.inj he
      subst ha
      subst hcp
      clear he
      have cC := Lib.hid (HC.out k hkn wr (HB1.out.trans (HB.out.mono HB1.out.size)))
      have hst := HSt.out k hkn
      obtain ⟨p, hp⟩ : ∃ p, P.getD k [] = p := ⟨_, rfl⟩
      rw [hp] at c0 cC hst
      obtain ⟨y, hy⟩ : ∃ y, wordX p = y := ⟨_, rfl⟩
      rw [hy] at cC hst
      have HSt2 := Lib.hid hst
      clear hp hy hst HC HSt
      generalize S p = sp at *
      go_wp2_with fail
      refine cC.out.mono ?_
      rintro e w2 ⟨vw, M, rfl, hbl, hb2, hgl, hml, hmn, hyl, hne⟩
      obtain ⟨ma, mc, rfl, -, -⟩ := hbl.length
      have HB2 : RowKit.Hid (Below w1.heap.size w1 w2) := HB.out.trans (hb2.mono HB.out.size)
      have HR2 := Lib.hid (HR.out.after hb2)
      have cG := HG.out M _ w2 hbl hml (by omega)
      rw [hgl] at cG
      have CG := Lib.hid cG
      have HYl := Lib.hid hyl
      by_cases h0 : y = []
      · have hM : M = [] := hne.2 h0
        subst hM
        subst h0
        have HD2 : RowKit.Hid (D = nonE ((P.take (k + 1)).map wordX)) := by
          unfold RowKit.Hid
          rw [HSt2.out, nonE_snoc, if_pos rfl]
          exact HD.out
        clear hb2 cC c0 hbl hgl hml hmn hyl cG CG hne
        rw [List.length_nil]
        go_wp2
        go_roundw
        case rel => exact ⟨k + 1, D, by go_num, by omega, by omega, HDl, HD2, HR2, HB2⟩
        case measure => simp [intOf]; omega
      · have hM : M ≠ [] := fun h => h0 (hne.1 h)
        have hMp := List.length_pos_iff.2 hM
        obtain ⟨ml, hmle⟩ : ∃ x, M.length = x := ⟨_, rfl⟩
        rw [hmle] at CG hMp ⊢
        have t1 : decide ((0 : Int) < (ml : Int)) = true := decide_eq_true (by omega)
        have t1n : decide (0 < ml) = true := decide_eq_true hMp
        have HD2 : RowKit.Hid (D ++ [y] = nonE ((P.take (k + 1)).map wordX)) := by
          unfold RowKit.Hid
          rw [HSt2.out, nonE_snoc, if_neg h0, HD.out]
        have HDl2 : RowKit.Hid (∀ z ∈ D ++ [y], z.length ≤ 100000) := by
          intro z hz
          rcases List.mem_append.1 hz with hz | hz
          · exact HDl.out z hz
          · rw [List.mem_singleton.1 hz]; exact HYl.out
        clear hb2 cC c0 hbl hgl hml hmn hyl cG hmle hM hMp hne h0
        go_wp2_with fail
        refine CG.out.mono ?_
        rintro e w3 ⟨rfl, hb3⟩
        have HB3 : RowKit.Hid (Below w1.heap.size w1 w3) := HB2.out.trans (hb3.mono HB2.out.size)
        have HR3 := Lib.hid (HR2.out.after hb3)
        have hsz := HB3.out.size
        clear hb3 CG HR2 HB2 t1 t1n
        go_wp2_with (at_builtin; go_loud (refine append_nr _ rfl _ _ rfl w1.heap.size u3 D y rfl HR3.out rfl (by omega) hsz w1.heap.size w1 (Nat.le_refl _) HB3.out ?_))
        intro v2 w4 hr4 hb4
        (try intro _)
        have hl4 : (D ++ [y]).length ≤ k + 1 := by rw [List.length_append]; simp; omega
        have HR4 := Lib.hid hr4
        have HB4 := Lib.hid hb4
        clear hr4 hb4
        go_wp2
        go_roundw
        case rel => exact ⟨k + 1, D ++ [y], by go_num, by omega, hl4, HDl2, HD2, HR4, HB4⟩
        case measure => simp [intOf]; omega
    · obtain rfl : k = n := by omega
      have hD := HD.out
      have ht : P.take k = P := by rw [← HN.out, List.take_length]
      rw [ht] at hD
      have cG := HG2.out D _ wr HR.out.bl HDl.out (by omega)
      rw [hD] at cG
      have CG := Lib.hid cG
      have HBf := Lib.hid (HB1.out.trans (HB.out.mono HB1.out.size))
      clear ht HD hD cG
      go_wp2_with fail
      refine CG.out.mono ?_
      rintro e w3 ⟨rfl, hb3⟩
      have HBg := Lib.hid (HBf.out.trans (hb3.mono HBf.out.size))
      clear hb3 CG
      go_wp2
      first | exact HQ.out _ HBg.out | (go_ret; exact HQ.out _ HBg.out)
set_option maxHeartbeats 4000000 in
theorem pSame12_any (a b : List UInt8) (ha : validT a = true) (hla : a.length ≤ 9000) (hb0 : validT b = true) (hlb : b.length ≤ 9000) (w : World) (_hE : Env w) :
    Calls Tryz.prog 50 #[.string (S a), .string (S b)] w fun e w' => e = .returned (.bool (sameX a b)) ∧ Below w.heap.size w w' := by
  have cA := Lib.hid (pNorm12_any a ha hla w _hE)
  have cB := Lib.hid (fun W hW => pNorm12_any b hb0 hlb W hW)
  have HE := Lib.hid (fun (W : World) (hb : Below w.heap.size w W) => _hE.after hb)
  have hq := S_eq12 (normX a) (normX b)
  have hsf := S_facts (normX a)
  unfold sameX
  obtain ⟨x, hx⟩ : ∃ x, normX a = x := ⟨_, rfl⟩
  obtain ⟨y, hy⟩ : ∃ y, normX b = y := ⟨_, rfl⟩
  rw [hx] at cA hq hsf ⊢
  rw [hy] at cB hq ⊢
  obtain ⟨res, hres⟩ : ∃ r, (decide (x ≠ []) && decide (x = y)) = r := ⟨_, rfl⟩
  rw [hres]
  have HRes := Lib.hid hres
  clear hx hy ha hla hb0 hlb _hE hres
  generalize S a = sa at *
  generalize S b = sb at *
  go_enter Tryz.func50, Tryz.ntmps50
  go_wp2_with fail
  refine cA.out.mono ?_
  rintro e w1 ⟨rfl, hb1⟩
  have B1 := Lib.hid hb1
  have cB1 := Lib.hid (cB.out w1 (HE.out w1 hb1))
  clear hb1 cA cB HE
  by_cases h0 : x = []
  · subst h0
    have e0 : S [] = (⟨#[]⟩ : ByteArray) := rfl
    rw [e0]
    have hr : res = false := HRes.out.symm
    subst hr
    clear hq hsf cB1 HRes
    go_wp2
    first | exact ⟨rfl, B1.out⟩ | (go_ret; exact ⟨rfl, B1.out⟩)
  · obtain ⟨s1, s2⟩ := hsf h0
    have hr := HRes.out
    rw [decide_eq_true h0, Bool.true_and] at hr
    rw [hr] at hq
    clear h0 hr hsf HRes
    generalize S x = sx at *
    generalize S y = sy at *
    go_wp2_with fail
    refine cB1.out.mono ?_
    rintro e w2 ⟨rfl, hb2⟩
    have B2 := Lib.hid (B1.out.trans (hb2.mono B1.out.size))
    clear hb2 cB1 B1
    go_wp2
    first | exact ⟨rfl, B2.out⟩ | (go_ret; exact ⟨rfl, B2.out⟩)
end

end Go.Proofs.YtmcolapcmjdoeaaGreatDoor
