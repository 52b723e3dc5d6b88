/- Merged: R12F, PA12. -/
import Derived.Test.YtjfbbpppdlaapaaDoorQ22
import Derived.Test.YtjfbbpppdlaapaaDoorQ21
namespace Go.Proofs.YtjfbbpppdlaapaaDoor

section
open Go.RowKit Go.PlainAid
theorem plain_eq (x : List UInt8) : plainX x = (validT x && (decide (cleanX x = x) && (decide ((splG dd x).length ≤ 1) && (decide (x.getD 0 0 ≠ 45) && decide (x.getD (x.length - 1) 0 ≠ 45))))) := by
  unfold plainX
  simp only [Bool.and_assoc]
theorem ne45 (c : UInt8) : decide (c ≠ 45) = ((c.toNat : Int) != 45) := by
  by_cases h : c = 45
  · subst h
    rfl
  · have : c.toNat ≠ 45 := fun e => h (UInt8.toNat_inj.1 e)
    rw [decide_eq_true h]
    symm
    simp
    omega
set_option maxHeartbeats 16000000 in
set_option maxRecDepth 100000 in
theorem refPlain_any (x : List UInt8) (hne : x ≠ []) (hl : x.length ≤ 100000) (w : World) :
    Calls Tryd.prog 39 #[.string (S x)] w fun e w' => e = .returned (.bool (plainX x)) ∧ Below w.heap.size w w' := by
  rw [plain_eq]
  have cV := Lib.hid (refValid_any (S x) (by rw [S_size]; omega) w)
  rw [S_list] at cV
  have hp := List.length_pos_iff.2 hne
  obtain ⟨n, hn⟩ : ∃ n, x.length = n := ⟨_, rfl⟩
  have hsz : (S x).size = n := by rw [S_size, hn]
  have hbt := get_bt (S x)
  have hb0 := bt_S x 0
  have hb1 := bt_S x (x.length - 1)
  have hm0 := (x.getD 0 0).toNat_lt
  have hm1 := (x.getD (x.length - 1) 0).toNat_lt
  have hq := S_eq12 (cleanX x) x
  cases hv : validT x with
  | false =>
    rw [hv] at cV
    rw [Bool.false_and]
    clear hbt hb0 hb1 hm0 hm1 hq hn hne
    generalize S x = s at *
    go_enter Tryd.func39, Tryd.ntmps39
    go_wp2_with fail
    refine cV.out.mono ?_
    rintro e w1 ⟨rfl, hb1⟩
    have B1 := Lib.hid hb1
    clear hb1
    go_wp2
    first | exact ⟨rfl, B1.out⟩ | (go_ret; exact ⟨rfl, B1.out⟩)
  | true =>
    rw [hv] at cV
    rw [Bool.true_and]
    have cC := Lib.hid (fun W => refCleanS_any x (by
      obtain ⟨c1, h1, h2⟩ := validT_text x hv
      exact ⟨c1, h1, h2⟩) (by omega) W)
    have cS := Lib.hid (fun W => refSplit_any dd x (by decide) (by decide) (by omega) W)
    have edd : S dd = ⟨#[45, 45]⟩ := rfl
    rw [edd] at cS
    rw [ne45, ne45]
    rw [hn] at hb1 hm1 hp ⊢
    obtain ⟨c0, hc0⟩ : ∃ c, (x.getD 0 0).toNat = c := ⟨_, rfl⟩
    obtain ⟨c1, hc1⟩ : ∃ c, (x.getD (n - 1) 0).toNat = c := ⟨_, rfl⟩
    rw [hc0] at hb0 hm0 ⊢
    rw [hc1] at hb1 hm1 ⊢
    obtain ⟨y, hy⟩ : ∃ y, cleanX x = y := ⟨_, rfl⟩
    obtain ⟨Q1, hQ1⟩ : ∃ Q, splG dd x = Q := ⟨_, rfl⟩
    rw [hy] at cC hq ⊢
    rw [hQ1] at cS ⊢
    obtain ⟨b1, hbb⟩ : ∃ b, decide (y = x) = b := ⟨_, rfl⟩
    rw [hbb] at hq ⊢
    rw [hn] at hl
    clear hy hQ1 hbb hc0 hc1 hv edd hn hne
    generalize S x = s at *
    generalize S y = sy at *
    have i1 : (0 : Int) < (n : Int) := by omega
    have i3 : ((n - 1 : Nat) : Int) = (n : Int) - 1 := by omega
    obtain ⟨m, hm⟩ : ∃ m, n - 1 = m := ⟨_, rfl⟩
    rw [hm] at hb1 i3
    have i4 : (n : Int) - 1 = (m : Int) := i3.symm
    have i5 : (0 : Int) ≤ (m : Int) := by omega
    have i6 : (m : Int) < (n : Int) := by omega
    have i7 : m < n := by omega
    have i9 : wrap64 ((n : Int) - 1) = (m : Int) := by unfold wrap64; omega
    clear hm i3
    obtain ⟨res, hres⟩ : ∃ r, (b1 && (decide (Q1.length ≤ 1) && (((c0 : Int) != 45) && ((c1 : Int) != 45)))) = r := ⟨_, rfl⟩
    rw [hres]
    have HRes := Lib.hid hres
    clear hres
    go_enter Tryd.func39, Tryd.ntmps39
    go_wp2_with fail
    refine cV.out.mono ?_
    rintro e w1 ⟨rfl, hb⟩
    have B1 := Lib.hid hb
    clear hb cV
    go_wp2_with fail
    refine (cC.out w1).mono ?_
    rintro e w2 ⟨rfl, hb⟩
    have B2 := Lib.hid (B1.out.trans (hb.mono B1.out.size))
    clear hb cC
    cases b1 with
    | false =>
      have hr : res = false := HRes.out.symm
      subst hr
      clear cS hb0 hb1
      go_wp2
      first | exact ⟨rfl, B2.out⟩ | (go_ret; exact ⟨rfl, B2.out⟩)
    | true =>
      go_wp2_with fail
      refine (cS.out w2).mono ?_
      rintro e w3 ⟨v, rfl, hr, hb⟩
      have B3 := Lib.hid (B2.out.trans (hb.mono B2.out.size))
      obtain ⟨g, cp, rfl⟩ := sr_form hr
      obtain ⟨q, hqn⟩ : ∃ q, Q1.length = q := ⟨_, rfl⟩
      have HRq : RowKit.Hid ((decide (q ≤ 1) && (((c0 : Int) != 45) && ((c1 : Int) != 45))) = res) := by
        have h := HRes.out
        rw [Bool.true_and, hqn] at h
        exact h
      rw [hqn]
      clear hb hr cS hqn HRes
      by_cases h1 : 1 < q
      · have hr : res = false := by
          have h := HRq.out
          rw [decide_eq_false (show ¬ q ≤ 1 by omega), Bool.false_and] at h
          exact h.symm
        subst hr
        have t1 : decide ((1 : Int) < (q : Int)) = true := decide_eq_true (by omega)
        have t1n : decide (1 < q) = true := decide_eq_true h1
        clear h1 hb0 hb1
        go_wp2
        first | exact ⟨rfl, B3.out⟩ | (go_ret; exact ⟨rfl, B3.out⟩)
      · have hrq := HRq.out
        rw [decide_eq_true (show q ≤ 1 by omega), Bool.true_and] at hrq
        have t1 : decide ((1 : Int) < (q : Int)) = false := decide_eq_false (by omega)
        have t1n : decide (1 < q) = false := decide_eq_false h1
        obtain ⟨u0, hu0⟩ : ∃ u, ((c0 : Int) != 45) = u := ⟨_, rfl⟩
        obtain ⟨u1, hu1⟩ : ∃ u, ((c1 : Int) != 45) = u := ⟨_, rfl⟩
        rw [hu0, hu1] at hrq
        clear h1 HRq
        cases u0 with
        | false =>
          have hr : res = false := hrq.symm
          subst hr
          clear hb1 hu1 hrq
          go_wp2
          first | exact ⟨rfl, B3.out⟩ | (go_ret; exact ⟨rfl, B3.out⟩)
        | true =>
          have hr : u1 = res := hrq
          subst hr
          clear hrq
          go_wp2
          first | exact ⟨rfl, B3.out⟩ | (go_ret; exact ⟨rfl, B3.out⟩)

theorem join_go (L : List (List UInt8)) (k : Nat) (x : List UInt8) (h : L[k]? = some x) : firstE12 (L.drop k) = if partE x ≠ 0 then partE x else firstE12 (L.drop (k + 1)) := by
  have hk := (List.getElem?_eq_some_iff.1 h).1
  have e : L.drop k = x :: L.drop (k + 1) := by rw [List.drop_eq_getElem_cons hk, (List.getElem?_eq_some_iff.1 h).2]
  rw [e, firstE12]
set_option maxHeartbeats 16000000 in
set_option maxRecDepth 100000 in
theorem refJoin12_any (L : List (List UInt8)) (v : Value) (w : World) (hv : BL v L w) (hn : L.length ≤ 1000000) (hL : ∀ x ∈ L, x.length ≤ 100000) (s : List UInt8) (er : Int) (hs : joinX L = (s, er)) :
    Calls Tryd.prog 22 #[v] w fun e w' => e = .returned (.tuple #[.string (S s), .int .i64 er]) ∧ Below w.heap.size w w' := by
  obtain ⟨Q, hQ⟩ : ∃ Q, (fun (e : Ending) (w' : World) => e = .returned (.tuple #[.string (S s), .int .i64 er]) ∧ Below w.heap.size w w') = Q := ⟨_, rfl⟩
  rw [hQ]
  have HErr : RowKit.Hid (∀ z : Int, joinX L = ([], z) → ∀ W, Below w.heap.size w W → Q (.returned (.tuple #[.string ⟨#[]⟩, .int .i64 z])) W) := by
    intro z h W hW
    rw [h] at hs
    obtain ⟨rfl, rfl⟩ := Prod.mk.inj hs
    rw [← hQ]
    exact ⟨rfl, hW⟩
  have HYes : RowKit.Hid (joinX L = (gluX dd L, 0) → ∀ W, Below w.heap.size w W → Q (.returned (.tuple #[.string (S (gluX dd L)), .int .i64 0])) W) := by
    intro h W hW
    rw [h] at hs
    obtain ⟨rfl, rfl⟩ := Prod.mk.inj hs
    rw [← hQ]
    exact ⟨rfl, hW⟩
  clear hs hQ
  have HV := Lib.hid hv
  obtain ⟨a, cap, rfl, hcap, hmax⟩ := hv.length
  obtain ⟨n, hn2⟩ : ∃ n, L.length = n := ⟨_, rfl⟩
  have hJ : ∀ r, (if n = 0 then (([] : List UInt8), (8 : Int)) else if 4 < n then ([], 4) else if firstE12 L ≠ 0 then ([], firstE12 L) else if 200 < (gluX dd L).length then ([], 4) else (gluX dd L, 0)) = r → joinX L = r := by
    intro r hr
    unfold joinX
    rw [hn2]
    exact hr
  rw [hn2] at HV hn ⊢
  have HN := Lib.hid hn2
  have HJ := Lib.hid hJ
  clear hJ hv hn2 hcap hmax
  by_cases h0 : n = 0
  · subst h0
    have hno := HErr.out 8 (HJ.out _ (if_pos rfl))
    go_enter Tryd.func22, Tryd.ntmps22
    go_wp2
    first | exact Below.refl _ _ | exact hno _ (Below.refl _ _) | (go_ret2; exact hno _ (Below.refl _ _)) | (refine bodyPost_ret (results_tmp2 rfl _ _ _) rfl ?_; exact hno _ (Below.refl _ _))
  have t0 : ((n : Int) == 0) = false := by simp; omega
  have t0n : decide (n = 0) = false := decide_eq_false h0
  by_cases h4 : 4 < n
  · have hno := HErr.out 4 (HJ.out _ (by rw [if_neg h0, if_pos h4]))
    have t4 : decide ((4 : Int) < (n : Int)) = true := decide_eq_true (by omega)
    have t4n : decide (4 < n) = true := decide_eq_true h4
    clear h0 h4
    go_enter Tryd.func22, Tryd.ntmps22
    go_wp2
    first | exact Below.refl _ _ | exact hno _ (Below.refl _ _) | (go_ret2; exact hno _ (Below.refl _ _)) | (refine bodyPost_ret (results_tmp2 rfl _ _ _) rfl ?_; exact hno _ (Below.refl _ _))
  have t4 : decide ((4 : Int) < (n : Int)) = false := decide_eq_false (by omega)
  have t4n : decide (4 < n) = false := decide_eq_false h4
  have HFi := Lib.hid (fun z (hz : firstE12 L = z) (h : z ≠ 0) => HErr.out z (HJ.out _ (by rw [if_neg h0, if_neg h4, if_pos (by rw [hz]; exact h), hz])))
  have HLo := Lib.hid (fun (hz : firstE12 L = 0) (h : 200 < (gluX dd L).length) => HErr.out 4 (HJ.out _ (by rw [if_neg h0, if_neg h4, if_neg (fun g => g hz), if_pos h])))
  have HOk := Lib.hid (fun (hz : firstE12 L = 0) (h : ¬ 200 < (gluX dd L).length) => HYes.out (HJ.out _ (by rw [if_neg h0, if_neg h4, if_neg (fun g => g hz), if_neg h])))
  have HG := Lib.hid (fun W h => refGlue_any dd L (.slice a n cap) W h (by decide) 100000 (by decide) hL (by rw [HN.out]; omega))
  have edd : S dd = ⟨#[45, 45]⟩ := rfl
  rw [edd] at HG
  have HD0 : RowKit.Hid (firstE12 (L.drop 0) = firstE12 L) := by
    unfold RowKit.Hid
    rw [List.drop_zero]
  have HLx := Lib.hid hL
  have hn4 : n ≤ 4 := by omega
  clear h0 h4 HErr HYes HJ edd hL
  go_enter Tryd.func22, Tryd.ntmps22
  go_wp2
  go_loopw [4] (fun i wr => ∃ k : Nat, i = .int .i64 (k : Int) ∧ k ≤ n ∧ RowKit.Hid (firstE12 (L.drop k) = firstE12 L) ∧ RowKit.Hid (Below w.heap.size w wr)) (fun i _ => n - (intOf i).toNat)
  case atStart => exact ⟨0, rfl, Nat.zero_le _, HD0, Below.refl _ _⟩
  case round =>
    obtain ⟨k, rfl, hk, HD, HB⟩ := hrel
    clear HD0
    by_cases hkn : k < n
    · have i1 : (0 : Int) ≤ (k : Int) := by omega
      have i2 : (k : Int) < (n : Int) := by omega
      obtain ⟨g, o, cap', he, hg, c0⟩ := (HV.out.after HB.out).at12 k (by rw [HN.out]; exact hkn)
      obtain ⟨ha, -, hcp⟩ := Value.slice.inj he
      subst ha hcp
      have hLk : L[k]? = some (L.getD k []) := by
        rw [List.getD_eq_getElem?_getD, List.getElem?_eq_getElem (by rw [HN.out]; exact hkn)]
        rfl
      have hst := join_go L k _ hLk
      have hxl := HLx.out _ (List.mem_of_getElem? hLk)
      rw [HD.out] at hst
      obtain ⟨x, hx⟩ : ∃ x, L.getD k [] = x := ⟨_, rfl⟩
      rw [hx] at c0 hst hxl
      have HSt := Lib.hid hst
      clear he hLk hx hst
      by_cases hx0 : x = []
      · subst hx0
        have hno := HFi.out 8 (by rw [HSt.out]; rfl) (by decide) wr HB.out
        have e0 : S [] = (⟨#[]⟩ : ByteArray) := rfl
        rw [e0] at c0
        clear HSt HFi HLo HOk HG hxl
        go_wp2
        first | exact hno | (go_ret2; exact hno) | (refine bodyPost_ret (results_tmp2 rfl _ _ _) rfl ?_; exact hno)
      · obtain ⟨s1, s2⟩ := S_facts x hx0
        have cP := Lib.hid (refPlain_any x hx0 hxl wr)
        have hpe : partE x = if plainX x = false then 3 else 0 := by unfold partE; rw [if_neg hx0]
        obtain ⟨pb, hpb⟩ : ∃ b, plainX x = b := ⟨_, rfl⟩
        rw [hpb] at cP hpe
        clear hpb hx0 hxl
        go_wp2_with fail
        refine cP.out.mono ?_
        rintro e w2 ⟨rfl, hb2⟩
        have HB2 := Lib.hid (HB.out.trans (hb2.mono HB.out.size))
        clear hb2 cP
        cases pb with
        | false =>
          rw [if_pos rfl] at hpe
          have hno := HFi.out 3 (by rw [HSt.out, hpe]; rfl) (by decide) w2 HB2.out
          clear HSt HFi HLo HOk HG hpe
          go_wp2
          first | exact hno | (go_ret2; exact hno) | (refine bodyPost_ret (results_tmp2 rfl _ _ _) rfl ?_; exact hno)
        | true =>
          rw [if_neg (by decide)] at hpe
          have HD2 : RowKit.Hid (firstE12 (L.drop (k + 1)) = firstE12 L) := by
            unfold RowKit.Hid
            rw [HSt.out, hpe, if_neg (fun h => h rfl)]
          clear HSt hpe s1 s2
          go_wp2
          go_roundw
          case rel => exact ⟨k + 1, by go_num, by omega, HD2, HB2⟩
          case measure => simp [intOf]; omega
    · obtain rfl : k = n := by omega
      have hz : firstE12 L = 0 := by
        rw [← HD.out, List.drop_of_length_le (by rw [HN.out]; exact Nat.le_refl _)]
        rfl
      have cG := Lib.hid (HG.out wr (HV.out.after HB.out))
      have hlo := HLo.out hz
      have hok := HOk.out hz
      have hgz := S_size (gluX dd L)
      obtain ⟨G, hG⟩ : ∃ G, gluX dd L = G := ⟨_, rfl⟩
      rw [hG] at cG hlo hok hgz
      obtain ⟨gl, hgl⟩ : ∃ m, G.length = m := ⟨_, rfl⟩
      rw [hgl] at hlo hok hgz
      have HLo2 := Lib.hid hlo
      have HOk2 := Lib.hid hok
      clear hz hG hgl HD HFi HLo HOk HG hlo hok
      generalize S G = sg at *
      go_wp2_with fail
      refine cG.out.mono ?_
      rintro e w3 ⟨rfl, hw3⟩
      rw [hw3]
      clear hw3 cG w3
      by_cases h2 : 200 < gl
      · have hno := HLo2.out h2 wr HB.out
        have t2 : decide ((200 : Int) < (gl : Int)) = true := decide_eq_true (by omega)
        have t2n : decide (200 < gl) = true := decide_eq_true h2
        clear h2 HLo2 HOk2
        go_wp2
        first | exact hno | (go_ret2; exact hno) | (refine bodyPost_ret (results_tmp2 rfl _ _ _) rfl ?_; exact hno)
      · have hno := HOk2.out h2 wr HB.out
        have t2 : decide ((200 : Int) < (gl : Int)) = false := decide_eq_false (by omega)
        have t2n : decide (200 < gl) = false := decide_eq_false h2
        clear h2 HLo2 HOk2
        go_wp2
        first | exact hno | (go_ret2; exact hno) | (refine bodyPost_ret (results_tmp2 rfl _ _ _) rfl ?_; exact hno)
end

section
open Go.RowKit Go.PlainAid
theorem year_bad (l : List UInt8) (k : Nat) (hk : k < l.length) (h : digc (l.getD k 0) = false) : yearX l = false := by
  unfold yearX
  rw [Bool.and_eq_false_iff]
  right
  rw [Bool.eq_false_iff]
  intro g
  rw [all_getD] at g
  rw [g k hk] at h
  cases h
theorem year_all (l : List UInt8) (h4 : l.length = 4) (h : ∀ j, j < l.length → digc (l.getD j 0) = true) : yearX l = true := by
  unfold yearX
  rw [Bool.and_eq_true, decide_eq_true_iff, all_getD]
  exact ⟨h4, h⟩
set_option maxHeartbeats 8000000 in
theorem year_any (l : List UInt8) (b : Bool) (hb : yearX l = b) (w : World) :
    Calls Tryd.prog 76 #[.string (S l)] w fun e w' => e = .returned (.bool b) ∧ w' = w := by
  obtain ⟨n, hn⟩ : ∃ n, l.length = n := ⟨_, rfl⟩
  have hsz : (S l).size = n := by rw [S_size, hn]
  have hbt := get_bt (S l)
  have HBS := Lib.hid (fun i => bt_S l i)
  have HBad := Lib.hid (fun k (hk : k < n) h => (year_bad l k (by rw [hn]; exact hk) h).symm.trans hb)
  have HAll := Lib.hid (fun h4 h => (year_all l h4 h).symm.trans hb)
  rw [hn] at HAll
  by_cases h4 : n = 4
  · have t4 : ((n : Int) != 4) = false := by simp; omega
    have H4 := Lib.hid h4
    have hn9 : n ≤ 9 := by omega
    clear hb hn h4
    generalize S l = s at *
    go_enter Tryd.func76, Tryd.ntmps76
    go_wp2
    go_loopw [9] (fun i wr => ∃ k : Nat, k ≤ n ∧ i = .int .i64 (k : Int) ∧ RowKit.Hid (∀ j, j < k → digc (l.getD j 0) = true) ∧ w = wr) (fun i _ => n - (intOf i).toNat)
    case atStart => exact ⟨0, Nat.zero_le _, rfl, (fun j hj => by omega), rfl⟩
    case round =>
      obtain ⟨k, hk, rfl, HJ, rfl⟩ := hrel
      by_cases hkn : k < n
      · have i1 : (0 : Int) ≤ (k : Int) := by omega
        have i2 : (k : Int) < (n : Int) := by omega
        have i2' : k < n := hkn
        have hbk := HBS.out k
        have hm := (l.getD k 0).toNat_lt
        have HBk := Lib.hid (HBad.out k hkn)
        have HJ2 : RowKit.Hid (digc (l.getD k 0) = true → ∀ j, j < k + 1 → digc (l.getD j 0) = true) := by
          intro h0 j hj
          rcases Nat.lt_or_ge j k with h | h
          · exact HJ.out j h
          · rw [show j = k by omega]; exact h0
        have hd : digc (l.getD k 0) = (decide (48 ≤ (l.getD k 0).toNat) && decide ((l.getD k 0).toNat ≤ 57)) := rfl
        obtain ⟨c, hc⟩ : ∃ c, (l.getD k 0).toNat = c := ⟨_, rfl⟩
        rw [hc] at hbk hm hd
        have HD := Lib.hid hd
        clear hc hd
        have hd2 := HD.out
        by_cases h48 : c < 48
        · rw [decide_eq_false (show ¬ 48 ≤ c by omega), Bool.false_and] at hd2
          have hf := HBk.out hd2
          subst hf
          have u1 : decide ((c : Int) < 48) = true := decide_eq_true (by omega)
          have u1n : decide (c < 48) = true := decide_eq_true h48
          clear h48 hd2
          go_wp2
          first | exact ⟨rfl, rfl⟩ | (go_ret; exact ⟨rfl, rfl⟩)
        · have u1 : decide ((c : Int) < 48) = false := decide_eq_false (by omega)
          have u1n : decide (c < 48) = false := decide_eq_false h48
          by_cases h57 : 57 < c
          · rw [decide_eq_false (show ¬ c ≤ 57 by omega), Bool.and_false] at hd2
            have hf := HBk.out hd2
            subst hf
            have u2 : decide ((57 : Int) < (c : Int)) = true := decide_eq_true (by omega)
            have u2n : decide (57 < c) = true := decide_eq_true h57
            clear h48 h57 hd2
            go_wp2
            first | exact ⟨rfl, rfl⟩ | (go_ret; exact ⟨rfl, rfl⟩)
          · rw [decide_eq_true (show 48 ≤ c by omega), decide_eq_true (show c ≤ 57 by omega)] at hd2
            have hj2 := Lib.hid (HJ2.out hd2)
            have u2 : decide ((57 : Int) < (c : Int)) = false := decide_eq_false (by omega)
            have u2n : decide (57 < c) = false := decide_eq_false h57
            clear h48 h57 hd2
            go_wp2
            go_roundw
            case rel => exact ⟨k + 1, by omega, by go_num, hj2.out, by first | rfl | trivial⟩
            case measure => simp [intOf]; omega
      · obtain rfl : k = n := by omega
        have hb2 := HAll.out H4.out HJ.out
        subst hb2
        go_wp2
        first | exact ⟨rfl, rfl⟩ | (go_ret; exact ⟨rfl, rfl⟩)
  · have hf : yearX l = false := by
      unfold yearX
      rw [decide_eq_false (by rw [hn]; exact h4)]
      rfl
    rw [hf] at hb
    subst hb
    have u1 : ((n : Int) != 4) = true := by simp; omega
    clear hn hf h4 hbt HBS HBad HAll
    generalize S l = s at *
    go_enter Tryd.func76, Tryd.ntmps76
    go_wp2
    first | exact ⟨rfl, rfl⟩ | (go_ret; exact ⟨rfl, rfl⟩)
set_option maxHeartbeats 8000000 in
theorem dates_any (l : List UInt8) (hl : l.length ≤ 1000000) (r : Bool) (hr : datesX l = r) (w : World) (hE : Env w) :
    Calls Tryd.prog 63 #[.string (S l)] w fun e w' => e = .returned (.bool r) ∧ Below w.heap.size w w' := by
  obtain ⟨a, b, t, hc⟩ : ∃ a b t, Lib.cut l [45] = (a, b, t) := ⟨_, _, _, rfl⟩
  have cC := Lib.hid (cCut l hl a b t hc w hE)
  have hd := (dates_cut l a b t hc).symm.trans hr
  obtain ⟨ya, hya⟩ : ∃ y, yearX a = y := ⟨_, rfl⟩
  obtain ⟨yb, hyb⟩ : ∃ y, yearX b = y := ⟨_, rfl⟩
  have cA := Lib.hid (fun W => year_any a ya hya W)
  have cB := Lib.hid (fun W => year_any b yb hyb W)
  rw [hya, hyb] at hd
  have HD := Lib.hid hd
  have hsf := S_facts b
  have HSF := Lib.hid hsf
  clear hc hr hya hyb hl hd hsf
  generalize S l = s at *
  generalize S a = sa at *
  go_enter Tryd.func63, Tryd.ntmps63
  go_wp2_with fail
  refine cC.out.mono ?_
  rintro e w1 ⟨rfl, hb1⟩
  have B1 := Lib.hid hb1
  clear hb1 cC
  cases t with
  | false =>
    have h : r = false := HD.out.symm
    subst h
    clear HD HSF cA cB
    go_wp2
    first | exact ⟨rfl, B1.out⟩ | (go_ret; exact ⟨rfl, B1.out⟩)
  | true =>
    go_wp2_with fail
    refine (cA.out w1).mono ?_
    rintro e w2 ⟨rfl, hw2⟩
    rw [hw2]
    clear hw2 cA w2
    cases ya with
    | false =>
      have h : r = false := HD.out.symm
      subst h
      clear HD HSF cB
      go_wp2
      first | exact ⟨rfl, B1.out⟩ | (go_ret; exact ⟨rfl, B1.out⟩)
    | true =>
      by_cases h0 : b = []
      · subst h0
        have h : r = true := HD.out.symm
        subst h
        have e0 : S [] = (⟨#[]⟩ : ByteArray) := rfl
        rw [e0] at cB ⊢
        clear HD HSF
        go_wp2
        first | exact ⟨rfl, B1.out⟩ | (go_ret; exact ⟨rfl, B1.out⟩)
      · obtain ⟨s1, s2⟩ := HSF.out h0
        have h : yb = r := by
          have h := HD.out
          rw [Bool.true_and, Bool.true_and, decide_eq_false h0, Bool.false_or] at h
          exact h
        subst h
        clear HD HSF h0
        generalize S b = sb at *
        go_wp2_with fail
        refine (cB.out w1).mono ?_
        rintro e w2 ⟨rfl, hw2⟩
        rw [hw2]
        clear hw2 cB w2
        go_wp2
        first | exact ⟨rfl, B1.out⟩ | (go_ret; exact ⟨rfl, B1.out⟩)
set_option maxHeartbeats 8000000 in
theorem clean12_any (x : List UInt8) (hl : x.length ≤ 1000000) (r : Bool) (hr : cleanB x = r) (w : World) (hE : Env w) :
    Calls Tryd.prog 41 #[.string (S x)] w fun e w' => e = .returned (.bool r) ∧ Below w.heap.size w w' := by
  obtain ⟨v, hv⟩ : ∃ v, validT x = v := ⟨_, rfl⟩
  have cV := Lib.hid (cValid x hl v hv w hE)
  have hq := S_eq12 (cleanX x) x
  have HC := Lib.hid (fun (h : v = true) W => cClean x (by
    obtain ⟨c1, h1, h2⟩ := validT_text x (hv.trans h)
    exact ⟨c1, h1, h2⟩) hl W)
  have hd : (v && decide (cleanX x = x)) = r := by rw [← hv]; exact hr
  have HD := Lib.hid hd
  obtain ⟨y, hy⟩ : ∃ y, cleanX x = y := ⟨_, rfl⟩
  rw [hy] at hq HC HD
  obtain ⟨b1, hbb⟩ : ∃ b, decide (y = x) = b := ⟨_, rfl⟩
  rw [hbb] at hq HD
  clear hv hr hl hd hy hbb
  generalize S x = s at *
  generalize S y = sy at *
  go_enter Tryd.func41, Tryd.ntmps41
  go_wp2_with fail
  refine cV.out.mono ?_
  rintro e w1 ⟨rfl, hb1⟩
  have B1 := Lib.hid hb1
  clear hb1 cV
  cases v with
  | false =>
    have h : r = false := HD.out.symm
    subst h
    clear HD HC hq
    go_wp2
    first | exact ⟨rfl, B1.out⟩ | (go_ret; exact ⟨rfl, B1.out⟩)
  | true =>
    have h : b1 = r := HD.out
    subst h
    go_wp2_with fail
    refine (HC.out (by simp) w1).mono ?_
    rintro e w2 ⟨rfl, hb2⟩
    have B2 := Lib.hid (B1.out.trans (hb2.mono B1.out.size))
    clear hb2 HC HD
    go_wp2
    first | exact ⟨rfl, B2.out⟩ | (go_ret; exact ⟨rfl, B2.out⟩)
theorem sep_eq (x : List UInt8) : sepX x = (decide ((splG dd x).length ≤ 1) && (!decide (x.getD 0 0 = 45) && !decide (x.getD (x.length - 1) 0 = 45))) := by
  unfold sepX
  rw [Bool.and_assoc, decide_not, decide_not]
set_option maxHeartbeats 8000000 in
theorem separable_any (x : List UInt8) (hl : x.length ≤ 1000000) (r : Bool) (hr : sepX x = r) (w : World) (hE : Env w) :
    Calls Tryd.prog 60 #[.string (S x)] w fun e w' => e = .returned (.bool r) ∧ Below w.heap.size w w' := by
  have cC := Lib.hid (cContains x dd (by decide) hl w hE)
  have edd : S dd = ⟨#[45, 45]⟩ := rfl
  rw [edd] at cC
  have cP := Lib.hid (cPrefix x w)
  have cS := Lib.hid (cSuffix x hl w)
  rw [sep_eq] at hr
  obtain ⟨b0, h0⟩ : ∃ b, decide ((splG dd x).length ≤ 1) = b := ⟨_, rfl⟩
  obtain ⟨b1, h1⟩ : ∃ b, decide (x.getD 0 0 = 45) = b := ⟨_, rfl⟩
  obtain ⟨b2, h2⟩ : ∃ b, decide (x.getD (x.length - 1) 0 = 45) = b := ⟨_, rfl⟩
  rw [h0, h1, h2] at hr
  rw [h0] at cC
  rw [h1] at cP
  rw [h2] at cS
  clear h0 h1 h2 hl edd hE
  generalize S x = s at *
  go_enter Tryd.func60, Tryd.ntmps60
  go_wp2_with fail
  refine cC.out.mono ?_
  rintro e w1 ⟨rfl, hw1⟩
  rw [hw1]
  clear hw1 cC w1
  cases b0 with
  | false =>
    have h : r = false := hr.symm
    subst h
    go_wp2
    first | exact ⟨rfl, Below.refl _ _⟩ | (go_ret; exact ⟨rfl, Below.refl _ _⟩)
  | true =>
    go_wp2_with fail
    refine cP.out.mono ?_
    rintro e w1 ⟨rfl, hw1⟩
    rw [hw1]
    clear hw1 cP w1
    cases b1 with
    | true =>
      have h : r = false := hr.symm
      subst h
      go_wp2
      first | exact ⟨rfl, Below.refl _ _⟩ | (go_ret; exact ⟨rfl, Below.refl _ _⟩)
    | false =>
      have h : (!b2) = r := hr
      subst h
      go_wp2_with fail
      refine cS.out.mono ?_
      rintro e w1 ⟨rfl, hw1⟩
      rw [hw1]
      clear hw1 cS w1
      go_wp2
      first | exact ⟨rfl, Below.refl _ _⟩ | (go_ret; exact ⟨rfl, Below.refl _ _⟩)
end

end Go.Proofs.YtjfbbpppdlaapaaDoor
