/- Merged: RValid, R12B, Plain12D. -/
import Derived.Test.YtmcolapcmjdoeaaGreatDoorQ13
import Derived.Test.YtmcolapcmjdoeaaGreatDoorQ05
import Derived.Test.YtmcolapcmjdoeaaGreatDoorQ14
import Derived.Test.YtmcolapcmjdoeaaGreatDoorQ16
import Derived.RegionTactic
import Derived.BigRegion
import Derived.Deep.RegionLaw
import Derived.Deep.Cut
import Derived.Deep.CutRange
import Derived.Test.YtmcolapcmjdoeaaGreatDoorQ03
namespace Go.Proofs.YtmcolapcmjdoeaaGreatDoor

section
open Go.RowKit
theorem goodP_allow (p : Nat × Nat) : goodP p ↔ ¬ (p.1 = 65533 ∧ p.2 = 1) ∧ allow p.1 = true := by
  unfold goodP allow
  simp

theorem validT_step (l : List UInt8) (hne : l ≠ []) : validT l = if goodP (Lib.decodeL l) then validT (l.drop (Lib.decodeL l).2) else false := by
  unfold validT
  rw [Lib.validD_step l hne, runes_step l hne, List.all_cons]
  by_cases h1 : (Lib.decodeL l).1 = 65533 ∧ (Lib.decodeL l).2 = 1
  · rw [if_pos h1, if_neg (by rw [goodP_allow]; exact fun h => h.1 h1)]
    rfl
  · rw [if_neg h1]
    cases ha : allow (Lib.decodeL l).1
    · rw [if_neg (by rw [goodP_allow, ha]; exact fun h => absurd h.2 (by simp))]
      simp
    · rw [if_pos ((goodP_allow _).2 ⟨h1, ha⟩)]
      simp

theorem validT_at (s : ByteArray) (p : Nat) (hp : p < s.size) : validT (s.data.toList.drop p) = if goodP (Utf8.decode s p) then validT (s.data.toList.drop (p + (Utf8.decode s p).2)) else false := by
  have hne : s.data.toList.drop p ≠ [] := by
    intro h0
    have := congrArg List.length h0
    rw [List.length_drop, ← Lib.size_eq] at this
    simp at this
    omega
  rw [validT_step _ hne, Lib.decodeL_drop, List.drop_drop]

theorem decode_fits (s : ByteArray) (p : Nat) (hp : p < s.size) : p + (Utf8.decode s p).2 ≤ s.size := by
  have hne : s.data.toList.drop p ≠ [] := by
    intro h0
    have := congrArg List.length h0
    rw [List.length_drop, ← Lib.size_eq] at this
    simp at this
    omega
  have := Lib.decodeL_le _ hne
  rw [Lib.decodeL_drop, List.length_drop, ← Lib.size_eq] at this
  omega

set_option maxHeartbeats 4000000 in
theorem refValid_any (s : ByteArray) (hz : s.size ≤ 1000000) (w : World) :
    Calls Tryz.prog 7 #[.string s] w fun e w' => e = .returned (.bool (validT s.data.toList)) ∧ Below w.heap.size w w' := by
  go_enter Tryz.func7, Tryz.ntmps7
  go_wp2
  go_loopw [3] (fun i wr => ∃ p : Nat, p ≤ s.size ∧ i = .int .i64 p ∧ Below w.heap.size w wr ∧ validT (s.data.toList.drop p) = validT s.data.toList) (fun i _ => s.size - (intOf i).toNat)
  case atStart => exact ⟨0, Nat.zero_le _, rfl, Below.refl _ _, by rw [List.drop_zero]⟩
  case round =>
    obtain ⟨p, hp, rfl, hbw, hall⟩ := hrel
    have HA := Lib.hid hall
    clear hall
    have hsz := hbw.size
    by_cases hlt : p < s.size
    · have cD := decode_ref s p hlt hz wr
      have HV := Lib.hid (validT_at s p hlt)
      have hfit := decode_fits s p hlt
      have hwd := Lib.width_pos s p
      have hpi : (p : Int) < (s.size : Int) := by omega
      by_cases hg : goodP (Utf8.decode s p)
      · have e1 : refDec s p = Utf8.decode s p := by unfold refDec; rw [if_pos hg]
        rw [e1] at cD
        have HG := Lib.hid hg
        clear e1 hg
        generalize Utf8.decode s p = d at cD HV hfit hwd HG
        obtain ⟨c, k⟩ := d
        simp only at cD hfit hwd
        have hk1 : ((k : Int) == 0) = false := by simp; omega
        go_wp2_with fail
        refine cD.mono ?_
        rintro e w1 ⟨rfl, b1⟩
        have b2 := hbw.trans (b1.mono hsz)
        clear b1
        go_wp2
        go_roundw
        case rel =>
          refine ⟨p + k, by omega, by go_num, b2, ?_⟩
          have := HV.out
          rw [if_pos HG.out] at this
          rw [← HA.out, this]
        case measure => simp [intOf]; omega
      · have e1 : refDec s p = (0, 0) := by unfold refDec; rw [if_neg hg]
        rw [e1] at cD
        have HG := Lib.hid hg
        clear e1 hg hfit hwd
        simp only at cD
        go_wp2_with fail
        refine cD.mono ?_
        rintro e w1 ⟨rfl, b1⟩
        have b2 := hbw.trans (b1.mono hsz)
        clear b1
        go_wp2
        go_ret
        refine ⟨?_, b2⟩
        have := HV.out
        rw [if_neg HG.out] at this
        rw [← HA.out, this]
        rfl
    · obtain rfl : p = s.size := by omega
      go_wp2
      go_ret
      refine ⟨?_, hbw⟩
      have := HA.out
      rw [List.drop_eq_nil_of_le (by rw [← Lib.size_eq]; omega)] at this
      rw [← this]
      rfl
end

section
open Go.RowKit Go.PlainAid
theorem BL.at12 {v : Value} {L : List (List UInt8)} {w : World} (h : BL v L w) (k : Nat) (hk : k < L.length) : ∃ g o cap, v = .slice (some ⟨g, o, none⟩) L.length cap ∧ g < w.heap.size ∧ w.cell? ⟨g, o + k, none⟩ = some (.string (S (L.getD k []))) := by
  obtain ⟨a, cap, rfl, _, _, _, hx⟩ := h
  obtain ⟨g, o, rfl, h1, h2⟩ := hx k hk
  exact ⟨g, o, cap, rfl, h1, h2⟩
theorem SR.mono {B B' : Nat} {v : Value} {L : List (List UInt8)} {w : World} (h : SR B' v L w) (hB : B ≤ B') : SR B v L w := by
  refine ⟨⟨h.row.1, ?_⟩, h.nn⟩
  rcases h.row.2 with hn | ⟨g, cap, cur, hv, hB', rest⟩
  · exact .inl hn
  · exact .inr ⟨g, cap, cur, hv, Nat.le_trans hB hB', rest⟩
theorem nonE_snoc (L : List (List UInt8)) (x : List UInt8) : nonE (L ++ [x]) = if x = [] then nonE L else nonE L ++ [x] := by
  unfold nonE
  rw [List.filter_append]
  by_cases h : x = []
  · rw [if_pos h]; simp [h]
  · rw [if_neg h]; simp [h]
theorem map_take_snoc (f : List UInt8 → List UInt8) (L : List (List UInt8)) (k : Nat) (h : k < L.length) : (L.take (k + 1)).map f = (L.take k).map f ++ [f (L.getD k [])] := by
  rw [List.take_succ_eq_append_getElem h, List.map_append, List.getD_eq_getElem?_getD, List.getElem?_eq_getElem h]
  rfl
theorem nonE_le (L : List (List UInt8)) : (nonE L).length ≤ L.length := List.length_filter_le _ _
theorem mem_getD12 (L : List (List UInt8)) (k : Nat) (h : k < L.length) : L.getD k [] ∈ L := by
  rw [List.getD_eq_getElem?_getD, List.getElem?_eq_getElem h]
  exact List.getElem_mem h
theorem spl_len (sep : List UInt8) : ∀ (n : Nat) (l : List UInt8), l.length ≤ n → (splG sep l).length ≤ l.length + 1
  | _, [], _ => by rw [spl_nil]; simp
  | 0, c :: t, h => by simp at h
  | n + 1, c :: t, h => by
    by_cases h0 : sep ≠ [] ∧ sep.isPrefixOf (c :: t) = true
    · have hp := List.length_pos_iff.2 h0.1
      have := spl_len sep n ((c :: t).drop sep.length) (by rw [List.length_drop]; omega)
      rw [spl_hit sep _ h0.1 h0.2]
      rw [List.length_drop] at this
      simp only [List.length_cons] at this ⊢
      omega
    · have ih := spl_len sep n t (by simpa using h)
      rw [splG, dif_neg h0]
      cases e : splG sep t with
      | nil => simp [addH]
      | cons p r =>
        rw [e] at ih
        simp only [addH, List.length_cons] at ih ⊢
        omega
theorem spl_mem (sep : List UInt8) : ∀ (n : Nat) (l : List UInt8), l.length ≤ n → ∀ x ∈ splG sep l, x.length ≤ l.length
  | _, [], _ => by
    rw [spl_nil]
    intro x hx
    rw [List.mem_singleton.1 hx]
    exact Nat.le_refl _
  | 0, c :: t, h => by simp at h
  | n + 1, c :: t, h => by
    by_cases h0 : sep ≠ [] ∧ sep.isPrefixOf (c :: t) = true
    · have hp := List.length_pos_iff.2 h0.1
      have ih := spl_mem sep n ((c :: t).drop sep.length) (by rw [List.length_drop]; omega)
      rw [spl_hit sep _ h0.1 h0.2]
      intro x hx
      rcases List.mem_cons.1 hx with rfl | hx
      · exact Nat.zero_le _
      · have := ih x hx
        rw [List.length_drop] at this
        omega
    · have ih := spl_mem sep n t (by simpa using h)
      rw [splG, dif_neg h0]
      intro x hx
      cases e : splG sep t with
      | nil =>
        rw [e] at hx
        rw [List.mem_singleton.1 hx]
        simp
      | cons p r =>
        rw [e] at hx ih
        rcases List.mem_cons.1 hx with rfl | hx
        · have := ih p (by simp)
          simp only [List.length_append, List.length_cons, List.length_nil]
          omega
        · have := ih x (by simp [hx])
          simp only [List.length_cons]
          omega
/-- libraryref01.Clean of a text. -/
theorem refCleanS_any (x : List UInt8) (hx : ∃ c1, OKs c1 ∧ x = enc c1) (hz : x.length ≤ 1000000) (w : World) :
    Calls Tryz.prog 59 #[.string (S x)] w fun e w' => e = .returned (.string (S (cleanX x))) ∧ Below w.heap.size w w' := by
  obtain ⟨c1, h1, rfl⟩ := hx
  exact refClean_any c1 h1 _ _ rfl (by rw [T_size]; exact hz) (by rw [cleanX_enc c1 h1]; rfl) w
set_option maxHeartbeats 16000000 in
set_option maxRecDepth 100000 in
theorem refParts_any (l : List UInt8) (hv : validT l = true) (hl : l.length ≤ 100000) (w : World) :
    Calls Tryz.prog 61 #[.string (S l)] w fun e w' => ∃ v, e = .returned v ∧ SR w.heap.size v (partsX l) w' ∧ Below w.heap.size w w' := by
  obtain ⟨Q, hQ⟩ : ∃ Q, (fun (e : Ending) (w' : World) => ∃ v, e = .returned v ∧ SR w.heap.size v (partsX l) w' ∧ Below w.heap.size w w') = Q := ⟨_, rfl⟩
  rw [hQ]
  have HQ : RowKit.Hid (∀ v W, SR w.heap.size v (partsX l) W → Below w.heap.size w W → Q (.returned v) W) := by rw [← hQ]; exact fun v W h k => ⟨v, rfl, h, k⟩
  clear hQ
  have cS := Lib.hid (refSplit_any dd l (by decide) (by decide) (by omega) w)
  have hpv : ∀ x ∈ splG dd l, ∃ c1, OKs c1 ∧ x = enc c1 := by
    obtain ⟨cs, hcs, rfl⟩ := validT_text l hv
    exact spl_valid dd dd_ascii _ cs (Nat.le_refl _) hcs
  have hpl := spl_mem dd l.length l (Nat.le_refl _)
  have hpn := spl_len dd l.length l (Nat.le_refl _)
  unfold partsX at HQ
  obtain ⟨P, hP⟩ : ∃ P, splG dd l = P := ⟨_, rfl⟩
  rw [hP] at cS hpv hpl hpn HQ
  have HC := Lib.hid (fun k (hk : k < P.length) W => refCleanS_any (P.getD k []) (hpv _ (mem_getD12 P k hk)) (Nat.le_trans (hpl _ (mem_getD12 P k hk)) (by omega)) W)
  have HSt := Lib.hid (fun k (hk : k < P.length) => map_take_snoc cleanX P k hk)
  have edd : S dd = ⟨#[45, 45]⟩ := rfl
  rw [edd] at cS
  obtain ⟨n, hn⟩ : ∃ n, P.length = n := ⟨_, rfl⟩
  rw [hn] at HC HSt hpn
  have HN := Lib.hid hn
  have hn9 : n ≤ 100001 := by omega
  clear hP hpv hpl hpn edd hl hv hn
  generalize S l = st at *
  go_enter Tryz.func61, Tryz.ntmps61
  go_wp2_with fail
  refine cS.out.mono ?_
  rintro e w1 ⟨v, rfl, hr1, hb1⟩
  obtain ⟨gp, cpp, rfl⟩ := sr_form hr1
  have HP := Lib.hid hr1.bl
  have HB1 := Lib.hid hb1
  have hrow0 := SR.empty w1
  have hbw0 : Below w1.heap.size w1 (w1.alloc (.cells #[] 9)) := (Below.refl _ _).alloc (Nat.le_refl _) _
  have HR0 := Lib.hid hrow0
  have HBw0 := Lib.hid hbw0
  rw [HN.out]
  rw [HN.out] at HP
  clear hr1 hb1 hrow0 hbw0 cS
  go_wp2
  go_loopw [4, 5] (fun v4 v5 wr => ∃ (k g cp d : Nat) (D : List (List UInt8)), v4 = .slice (some ⟨g, 0, none⟩) d cp ∧ v5 = .int .i64 (k : Int) ∧ k ≤ n ∧ D.length = d ∧ d ≤ k ∧ RowKit.Hid (D = nonE ((P.take k).map cleanX)) ∧ RowKit.Hid (SR w1.heap.size (.slice (some ⟨g, 0, none⟩) d cp) D wr) ∧ RowKit.Hid (Below w1.heap.size w1 wr)) (fun _ v5 _ => n - (intOf v5).toNat)
  case atStart => exact ⟨0, _, _, _, [], rfl, rfl, by omega, rfl, by omega, rfl, HR0, HBw0⟩
  case round =>
    obtain ⟨k, g, cp, d, D, rfl, rfl, hk, hDd, hdk, HD, HR, HB⟩ := hrel
    clear HR0 HBw0
    by_cases hkn : k < n
    · have i1 : (0 : Int) ≤ (k : Int) := by omega
      have i2 : (k : Int) < (n : Int) := by omega
      obtain ⟨g2, o2, cap2, he, hg, c0⟩ := (HP.out.after HB.out).at12 k (by rw [HN.out]; exact hkn)
      obtain ⟨ha, -, hcp⟩ := Value.slice.inj he
      obtain ⟨rfl, rfl, -⟩ := Addr.mk.inj (Option.some.inj ha)
      subst hcp
      rw [Nat.zero_add] at c0
      clear he ha
      have cC := Lib.hid (HC.out k hkn wr)
      have hst := HSt.out k hkn
      obtain ⟨p, hp⟩ : ∃ p, P.getD k [] = p := ⟨_, rfl⟩
      rw [hp] at c0 cC hst
      obtain ⟨y, hy⟩ : ∃ y, cleanX p = y := ⟨_, rfl⟩
      rw [hy] at cC hst
      have HSt2 := Lib.hid hst
      clear hp hy hst
      generalize S p = sp at *
      go_wp2_with fail
      refine cC.out.mono ?_
      rintro e w2 ⟨rfl, hb2⟩
      have HB2 : RowKit.Hid (Below w1.heap.size w1 w2) := HB.out.trans (hb2.mono HB.out.size)
      have HR2 := Lib.hid (HR.out.after hb2)
      clear hb2 cC c0
      by_cases h0 : y = []
      · subst h0
        have e0 : S [] = (⟨#[]⟩ : ByteArray) := rfl
        rw [e0]
        have HD2 : RowKit.Hid (D = nonE ((P.take (k + 1)).map cleanX)) := by
          unfold RowKit.Hid
          rw [HSt2.out, nonE_snoc, if_pos rfl]
          exact HD.out
        go_wp2
        go_roundw
        case rel => exact ⟨k + 1, g, cp, d, D, by first | rfl | trivial, by go_num, by omega, hDd, by omega, HD2, HR2, HB2⟩
        case measure => simp [intOf]; omega
      · obtain ⟨s1, s2⟩ := S_facts y h0
        have HD2 : RowKit.Hid (D ++ [y] = nonE ((P.take (k + 1)).map cleanX)) := by
          unfold RowKit.Hid
          rw [HSt2.out, nonE_snoc, if_neg h0, HD.out]
        have hsz := HB2.out.size
        clear h0
        go_wp2_with (at_builtin; go_loud (refine append_sr _ rfl _ _ rfl w1.heap.size (.slice (some ⟨g, 0, none⟩) d cp) D y rfl HR2.out rfl (by omega) hsz w1.heap.size w1 (Nat.le_refl _) HB2.out ?_))
        intro v2 w3 hr3 hb3
        (try intro _)
        obtain ⟨g3, cp3, rfl⟩ := sr_form hr3
        have hl3 : (D ++ [y]).length = d + 1 := by rw [List.length_append, hDd]; rfl
        have HL3 := Lib.hid hl3
        rw [hl3] at hr3 ⊢
        have HR3 := Lib.hid hr3
        have HB3 := Lib.hid hb3
        clear hr3 hb3 hl3 s1 s2
        go_wp2
        go_roundw
        case rel => exact ⟨k + 1, g3, cp3, d + 1, D ++ [y], by first | rfl | trivial, by go_num, by omega, HL3.out, by omega, HD2, HR3, HB3⟩
        case measure => simp [intOf]; omega
    · obtain rfl : k = n := by omega
      have hD := HD.out
      have ht : P.take k = P := by rw [← HN.out, List.take_length]
      rw [ht] at hD
      subst hD
      have HRf := Lib.hid (HR.out.mono HB1.out.size)
      have HBf := Lib.hid (HB1.out.trans (HB.out.mono HB1.out.size))
      clear ht HD
      go_wp2
      first | exact HQ.out _ _ HRf.out HBf.out | (go_ret; exact HQ.out _ _ HRf.out HBf.out)
end

section
open Go.Lib
def sumF (f : List UInt8 → Nat) (L : List (List UInt8)) : Nat := (L.map f).sum
theorem sumF_cons (f : List UInt8 → Nat) (x : List UInt8) (L : List (List UInt8)) : sumF f (x :: L) = f x + sumF f L := by simp [sumF]
theorem sumF_filter (f : List UInt8 → Nat) (p : List UInt8 → Bool) : ∀ L : List (List UInt8), sumF f (L.filter p) ≤ sumF f L
  | [] => Nat.le_refl _
  | x :: L => by
    have ih := sumF_filter f p L
    rw [List.filter_cons]
    split
    · rw [sumF_cons, sumF_cons]; omega
    · rw [sumF_cons]; omega
theorem sumF_map (f : List UInt8 → Nat) (g : List UInt8 → List UInt8) (L : List (List UInt8)) : sumF f (L.map g) = sumF (fun x => f (g x)) L := by
  simp [sumF, Function.comp_def]
theorem sumF_le (f g : List UInt8 → Nat) (k : Nat) : ∀ L : List (List UInt8), (∀ x ∈ L, f x ≤ k * g x) → sumF f L ≤ k * sumF g L
  | [], _ => by simp [sumF]
  | x :: L, h => by
    have h1 := h x (by simp)
    have ih := sumF_le f g k L (fun y hy => h y (by simp [hy]))
    rw [sumF_cons, sumF_cons, Nat.mul_add]
    omega
theorem spl_sum (sep : List UInt8) : ∀ (n : Nat) (l : List UInt8), l.length ≤ n → sumF (fun x => x.length + 1) (splG sep l) ≤ l.length + 1
  | _, [], _ => by rw [spl_nil]; simp [sumF]
  | 0, c :: t, h => by simp at h
  | n + 1, c :: t, h => by
    by_cases h0 : sep ≠ [] ∧ sep.isPrefixOf (c :: t) = true
    · have hp := List.length_pos_iff.2 h0.1
      have := spl_sum sep n ((c :: t).drop sep.length) (by rw [List.length_drop]; omega)
      rw [spl_hit sep _ h0.1 h0.2, sumF_cons]
      rw [List.length_drop] at this
      simp only [List.length_cons, List.length_nil] at this ⊢
      omega
    · have ih := spl_sum sep n t (by simpa using h)
      rw [splG, dif_neg h0]
      cases e : splG sep t with
      | nil => simp [addH, sumF]
      | cons p r =>
        rw [e, sumF_cons] at ih
        simp only [addH, sumF_cons, List.length_cons, List.length_append, List.length_nil] at ih ⊢
        omega
theorem glu_sum (sep : List UInt8) : ∀ L : List (List UInt8), (gluX sep L).length ≤ sumF (fun x => x.length + sep.length) L
  | [] => by simp [gluX]
  | [x] => by
    show x.length ≤ _
    rw [sumF_cons]
    omega
  | x :: y :: r => by
    have ih := glu_sum sep (y :: r)
    rw [sumF_cons]
    show (x ++ sep ++ gluX sep (y :: r)).length ≤ _
    rw [List.length_append, List.length_append]
    omega
/-- Cleaning makes no text longer. -/
theorem clean_run_le (cs : List Nat) : (cleanRun cs).1.length + (if (cleanRun cs).2 = true then 1 else 0) ≤ cs.length := by
  refine snoc_ind (p := fun cs => (cleanRun cs).1.length + (if (cleanRun cs).2 = true then 1 else 0) ≤ cs.length) ?_ ?_ cs
  · simp [cleanRun]
  · intro l c ih
    rw [cleanRun_snoc]
    revert ih
    generalize cleanRun l = st
    obtain ⟨o, b⟩ := st
    intro ih
    unfold cleanStep
    rw [List.length_append]
    cases b <;> by_cases hb : blankc c = true <;> by_cases ho : o = [] <;> simp_all <;> omega
theorem clean_tight (cs : List Nat) : (cleanL cs).length ≤ cs.length := by
  have := clean_run_le cs
  unfold cleanL
  omega
theorem norm_len (l : List UInt8) (h : validT l = true) : (normX l).length ≤ 8 * (l.length + 1) := by
  obtain ⟨cs, hcs, rfl⟩ := validT_text l h
  refine Nat.le_trans (glu_sum dd _) ?_
  unfold normL partsX nonE
  refine Nat.le_trans (sumF_filter _ _ _) ?_
  rw [sumF_map]
  refine Nat.le_trans (sumF_filter _ _ _) ?_
  rw [sumF_map]
  refine Nat.le_trans (sumF_le _ (fun x => x.length + 1) 8 _ ?_) (Nat.mul_le_mul_left 8 (spl_sum dd _ _ (Nat.le_refl _)))
  intro x hx
  obtain ⟨c1, hc1, rfl⟩ := spl_valid dd dd_ascii _ cs (Nat.le_refl _) hcs x hx
  rw [cleanX_enc c1 hc1, wordX_enc _ (clean_OK c1 hc1)]
  have h1 := clean_tight c1
  have h2 := len_le c1
  rw [T_size] at h2
  have h3 := W_total (cleanL c1)
  have h4 := join_total (W (cleanL c1))
  have h5 := enc_le (joinL (W (cleanL c1)))
  have h6 : dd.length = 2 := rfl
  omega
end

end Go.Proofs.YtmcolapcmjdoeaaGreatDoor
